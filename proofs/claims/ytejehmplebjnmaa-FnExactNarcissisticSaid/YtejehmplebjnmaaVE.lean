/-
  Numbers that are their own power sums: the model's search, whole.
-/
import Derived.Test.YtejehmplebjnmaaVD
namespace Go.Proofs.Ytejehmplebjnmaa
open Go.RowKit
set_option linter.unusedVariables false
set_option linter.unusedSimpArgs false
set_option maxRecDepth 100000

theorem cnt_at (b : Nat) (ds : List Nat) (k : Nat) (hk : k < b) : (cnt (b : Int) (ints ds)).set k ((cnt (b : Int) (ints ds)).getD k 0 + 1) = cnt (b : Int) (ints (ds ++ [k])) := by
  rw [cnt_snoc]
  rfl

set_option maxHeartbeats 1000000 in
theorem try_any (gw b p B : Nat) (hb : 2 ≤ b) (hb' : b ≤ 10) (hp : 1 ≤ p) (hp' : p ≤ 6) : ∀ (n m gc cc : Nat) (ds : List Nat) (v : Value) (fs : List Int) (w : World), m < b → (∀ d ∈ ds, d < b) → ds.length + n ≤ 8 →
    Srch w gw b p v → Rd w B v fs → fs.Pairwise (· < ·) → (∀ z ∈ fs, z ∈ ownL b p) → Rd w B (.slice (some ⟨gc, 0, none⟩) b cc) (cnt (b : Int) (ints ds)) → B ≤ w.heap.size →
    Calls Try.prog 78 #[.pointer (some ⟨gw, 0, none⟩), .int .i64 (n : Int), .int .i64 (m : Int), .int .i64 ((psn p ds : Nat) : Int), .slice (some ⟨gc, 0, none⟩) b cc] w fun e w' => e = .returned (.tuple #[]) ∧
      ∃ v' fs', Srch w' gw b p v' ∧ Rd w' B v' fs' ∧ fs'.Pairwise (· < ·) ∧ (∀ z, z ∈ fs' ↔ z ∈ fs ∨ Fnd b p n m (psn p ds) (cnt (b : Int) (ints ds)) z) ∧ w.grownBy w' (some gw) := by
  intro n
  induction n with
  | zero =>
    intro m gc cc ds v fs w hm hds hdl hS hF hR hO hC hB
    refine (try_leaf gw b p gc cc B ds (m : Int) v fs w hb hb' hp hp' hds (by omega) hS hF hR hO hC hB).mono ?_
    rintro e w' ⟨rfl, v', fs', h1, h2, h3, h4, h5⟩
    exact ⟨rfl, v', fs', h1, h2, h3, fun z => (h4 z).trans (or_congr Iff.rfl (fnd_zero.trans fnd_zero.symm)), h5⟩
  | succ n ih =>
    intro m gc cc ds v fs w hm hds hdl hS hF hR hO hC hB
    have IH := Lib.hid ih
    have HS := Lib.hid hS
    have HF := Lib.hid hF
    have HR := Lib.hid hR
    have HO := Lib.hid hO
    have HC := Lib.hid hC
    have HDS := Lib.hid hds
    have hsm := psn_le (p := p) hp' ds (fun d hd => by have := hds d hd; omega)
    obtain ⟨N, hN⟩ : ∃ N, N = n + 1 := ⟨_, rfl⟩
    have hNi : (N : Int) - 1 = (n : Int) := by omega
    have hz : ((N : Int) == 0) = false := beq_no (by omega)
    have HFS := Lib.hid (show ∀ z, Fnd b p (n + 1) m (psn p ds) (cnt (b : Int) (ints ds)) z ↔ ∃ d, d < m + 1 ∧ Fnd b p n d (psn p (ds ++ [d])) (cnt (b : Int) (ints (ds ++ [d]))) z from fun z => by
      rw [fnd_succ]
      simp only [psn_snoc, cnt_snoc])
    rw [← hN] at HFS ⊢
    have hdn : ds.length + n + 1 ≤ 8 := by omega
    have HCB := Lib.hid (show ∀ y ∈ cnt (b : Int) (ints ds), 0 ≤ y ∧ y ≤ (0 : Int) + (ints ds).length from cnt_bd b (ints ds) _ 0 (fun y hy => by have := (List.mem_replicate.1 hy).2; omega) (by omega))
    have HCL := Lib.hid (show (cnt (b : Int) (ints ds)).length = b by rw [cnt_len]; rfl)
    have HCS := Lib.hid (cnt_at b ds)
    have HPS := Lib.hid (psn_snoc p ds)
    have HIL := Lib.hid (ints_len ds)
    obtain ⟨S, hSS⟩ : ∃ S, S = psn p ds := ⟨_, rfl⟩
    obtain ⟨cs, hcs⟩ : ∃ cs, cs = cnt (b : Int) (ints ds) := ⟨_, rfl⟩
    rw [← hSS] at hsm HPS HFS ⊢
    rw [← hcs] at HC HCB HCL HCS HFS ⊢
    clear hS hF hR hO hC hds ih hN hSS hcs hdl
    go_enter Try.func78, Try.ntmps78
    go_wp2
    go_loopw [10] (fun i wr => ∃ (k : Nat) (v' : Value) (fs' : List Int), k ≤ m + 1 ∧ i = .int .i64 (k : Int) ∧ Srch wr gw b p v' ∧ Rd wr B v' fs' ∧ fs'.Pairwise (· < ·) ∧ (∀ z ∈ fs', z ∈ ownL b p) ∧ Hid (∀ z, z ∈ fs' ↔ z ∈ fs ∨ ∃ d, d < k ∧ Fnd b p n d (psn p (ds ++ [d])) (cnt (b : Int) (ints (ds ++ [d]))) z) ∧ w.grownBy wr (some gw)) (fun i _ => m + 1 - (intOf i).toNat)
    case atStart => exact ⟨0, v, fs, Nat.zero_le _, rfl, HS.out, HF.out, HR.out, HO.out, Lib.hid (fun z => ⟨.inl, fun h => h.elim id (fun ⟨d, hd, _⟩ => absurd hd (Nat.not_lt_zero _))⟩), gw_refl w gw⟩
    case round =>
      obtain ⟨k, v', fs', hk, rfl, hS', hF', hR', hO', HM, hg⟩ := hrel
      have HSr := Lib.hid hS'
      have HFr := Lib.hid hF'
      have HRr := Lib.hid hR'
      have HOr := Lib.hid hO'
      have HG := Lib.hid hg
      have HCr := Lib.hid (gw_rd HS.out HC.out hg)
      have hBr := Nat.le_trans hB hg.size
      clear hS' hF' hR' hO' hg
      by_cases hlt : k < m + 1
      · have hkb : k < b := by omega
        go_wp2_with fail
        refine (l1Own_any _ cs _ B HCr.out (by rw [HCL.out]; omega)).mono ?_
        rintro e w1 ⟨u1, rfl, hr1, hb1⟩
        obtain ⟨g1, c1, rfl⟩ : ∃ g1 c1, u1 = .slice (some ⟨g1, 0, none⟩) b c1 := by
          rcases hr1.cases with ⟨_, hx⟩ | ⟨g1, c1, hu, _⟩
          · have := HCL.out; rw [hx] at this; simp at this; omega
          · rw [HCL.out] at hu; exact ⟨g1, c1, hu⟩
        have hkl : k < cs.length := by rw [HCL.out]; exact hkb
        have hcell := hr1.at.2.2.2.2.1 k hkl
        have hf1 := hr1.at.2.2.2.2.2 k
        have hg1 := hr1.at.2.1
        obtain ⟨y, hy⟩ : ∃ y, y = cs[k] := ⟨_, rfl⟩
        have hyb : 0 ≤ y ∧ y ≤ 8 := by have := HCB.out y (by rw [hy]; exact List.getElem_mem _); rw [HIL.out] at this; omega
        obtain ⟨hy0, hy1⟩ := hyb
        have HCK := Lib.hid (show cs.set k (y + 1) = cnt (b : Int) (ints (ds ++ [k])) by rw [← HCS.out k hkb, hy, List.getD_eq_getElem?_getD, List.getElem?_eq_getElem hkl]; rfl)
        rw [← hy] at hcell
        have S1 := Lib.hid (HSr.out.keep hb1)
        have hgne : gw ≠ g1 := fun e => (S1.out.apart hr1) (by rw [e]; rfl)
        have R2 := Lib.hid ((hr1.set k (y + 1)).1.mono hBr)
        rw [HCK.out] at R2
        have S2 := Lib.hid (S1.out.other (g := g1) (j := k) (u := .int .i64 (y + 1)) hgne)
        have B2 := Lib.hid (hb1.setCell (p := ⟨g1, k, none⟩) hg1 (.int .i64 (y + 1)))
        have F2 := Lib.hid (HFr.out.keep B2.out)
        have hcp := S2.out.c1
        have hB2 := Nat.le_trans hBr B2.out.size
        obtain ⟨u, hu⟩ : ∃ u, u = k ^ p := ⟨_, rfl⟩
        have hub : u ≤ 531441 := by
          rw [hu]
          have h1 := Nat.pow_le_pow_left (show k ≤ 9 by omega) p
          have h2 := Nat.pow_le_pow_right (show 0 < 9 by omega) hp'
          have h3 : 9 ^ 6 = 531441 := by decide
          omega
        obtain ⟨T, hT⟩ : ∃ T, T = psn p (ds ++ [k]) := ⟨_, rfl⟩
        have hST : (S : Int) + (u : Int) = (T : Int) := by rw [hT, HPS.out, hu]; push_cast; rfl
        have HPW := Lib.hid (show ∀ w' : World, Calls Try.prog 83 #[.int .i64 (k : Int), .int .i64 (p : Int)] w' fun e w'' => e = .returned (.int .i64 (u : Int)) ∧ w'' = w' from fun w' => by
          rw [hu]; exact (pwOf_any k p w' (by omega) (by omega)).mono (fun e w'' h => ⟨h.1, h.2.symm⟩))
        have HIH := Lib.hid (IH.out k g1 c1 (ds ++ [k]) v' fs' _ hkb (fun d hd => by
          rcases List.mem_append.1 hd with hd | hd
          · exact HDS.out d hd
          · rw [List.mem_singleton.1 hd]; exact hkb) (by simp; omega) S2.out F2.out HRr.out HOr.out R2.out hB2)
        rw [← hT] at HIH
        have HTT := Lib.hid hT
        have hSb : S ≤ 5000000 := by omega
        clear hr1 hb1 hy hu hT
        go_wp2_with (go_at_call 83; refine (HPW.out _).mono ?_; rintro e w3 ⟨rfl, rfl⟩)
        refine HIH.out.mono ?_
        rintro e w3 ⟨rfl, v3, fs3, hS3, hF3, hR3, hM3, hg3⟩
        have S3 := Lib.hid hS3
        have F3 := Lib.hid hF3
        have R3 := Lib.hid hR3
        have M3 := Lib.hid hM3
        have HGw := Lib.hid (grown_trans (gw_below HG.out B2.out) hg3)
        have O3 := Lib.hid (show ∀ z ∈ fs3, z ∈ ownL b p from fun z hz => by
          rcases (hM3 z).1 hz with h | h
          · exact HOr.out z h
          · rw [HTT.out] at h
            exact fnd_own hb (by omega) hp (by omega) (fun d hd => by
              rcases List.mem_append.1 hd with hd | hd
              · exact HDS.out d hd
              · rw [List.mem_singleton.1 hd]; exact hkb) hkb h)
        have HMN := Lib.hid (show ∀ z, z ∈ fs3 ↔ z ∈ fs ∨ ∃ d, d < k + 1 ∧ Fnd b p n d (psn p (ds ++ [d])) (cnt (b : Int) (ints (ds ++ [d]))) z from fun z => by
          rw [hM3 z, HM.out z, HTT.out]
          constructor
          · rintro ((h | ⟨d, hd, h⟩) | h)
            · exact .inl h
            · exact .inr ⟨d, by omega, h⟩
            · exact .inr ⟨k, by omega, h⟩
          · rintro (h | ⟨d, hd, h⟩)
            · exact .inl (.inl h)
            · by_cases e : d = k
              · subst e; exact .inr h
              · exact .inl (.inr ⟨d, by omega, h⟩))
        clear hS3 hF3 hR3 hM3 hg3
        go_wp2
        go_roundw
        case rel => exact ⟨k + 1, v3, fs3, by omega, by go_num, S3.out, F3.out, R3.out, O3.out, HMN, HGw.out⟩
        case measure => simp [intOf]; omega
      · obtain rfl : k = m + 1 := by omega
        go_wp2
        first
          | go_end0
          | (refine bodyPost_ret (results_none rfl _ _ _) rfl ?_)
        exact ⟨rfl, v', fs', HSr.out, HFr.out, HRr.out, fun z => (HM.out z).trans (or_congr Iff.rfl (HFS.out z).symm), HG.out⟩

end Go.Proofs.Ytejehmplebjnmaa
