/-
  The program's table of powers, its sums, and where numbers fall.
-/
import Derived.Test.YtnniiobiedfmoaaUC
import Derived.Test.YtnniiobiedfmoaaUR
import Derived.Test.YtnniiobiedfmoaaV
import Derived.Test.YtnniiobiedfmoaaPW
namespace Go.Proofs.Ytnniiobiedfmoaa
open Go.RowKit
set_option linter.unusedVariables false
set_option linter.unusedSimpArgs false
set_option maxRecDepth 100000

/-- The table of the powers p of the digits of a base lies in a block of its own. -/
structure Tp (w : World) (g b p : Nat) : Prop where
  lt : g < w.heap.size
  cell : ∀ j, j < b → w.cell? ⟨g, j, none⟩ = some (.int .i64 ((j ^ p : Nat) : Int))

theorem Tp.keep {w w' : World} {g b p : Nat} (h : Tp w g b p) (hb : Below w.heap.size w w') : Tp w' g b p :=
  ⟨Nat.lt_of_lt_of_le h.lt hb.size, fun j hj => (hb.cell (p := ⟨g, j, none⟩) h.lt).trans (h.cell j hj)⟩
theorem Tp.keepB {w w' : World} {C g b p : Nat} (h : Tp w g b p) (hb : Below C w w') (hg : g < C) (hs : w.heap.size ≤ w'.heap.size) : Tp w' g b p :=
  ⟨Nat.lt_of_lt_of_le h.lt hs, fun j hj => (hb.cell (p := ⟨g, j, none⟩) hg).trans (h.cell j hj)⟩
theorem Tp.drewN {w : World} {g b p : Nat} (h : Tp w g b p) (n : Nat) : Tp (w.drewN n) g b p := ⟨h.lt, h.cell⟩
theorem Tp.drew {w : World} {g b p : Nat} (h : Tp w g b p) : Tp w.drew g b p := ⟨h.lt, h.cell⟩

/-- The table while the power of k is at j. -/
def pst (b p k j : Nat) : List Int := lst k (fun d => d ^ p) ++ (((k ^ j : Nat) : Int) :: List.replicate (b - k - 1) 1)
theorem pst_zero {b p k : Nat} (h : k < b) : pst b p k 0 = lst k (fun d => d ^ p) ++ List.replicate (b - k) 1 := by
  unfold pst
  obtain ⟨m, hm⟩ : ∃ m, b - k = m + 1 := ⟨b - k - 1, by omega⟩
  rw [hm, List.replicate_succ]
  simp
theorem pst_end {b p k : Nat} (h : k < b) : pst b p k p = lst (k + 1) (fun d => d ^ p) ++ List.replicate (b - (k + 1)) 1 := by
  unfold pst
  rw [lst_succ, List.append_assoc]
  rw [show b - k - 1 = b - (k + 1) from by omega]
  rfl
theorem pst_set (b p k j : Nat) (s : Nat) (hs : k ^ (j + 1) = s) : (pst b p k j).set k (s : Int) = pst b p k (j + 1) := by
  unfold pst
  rw [List.set_append, if_neg (by rw [lst_len]; omega), lst_len, Nat.sub_self, List.set_cons_zero, hs]
theorem pst_len {b p k j : Nat} (h : k < b) : (pst b p k j).length = b := by
  unfold pst
  simp [lst_len]; omega
theorem pst_get (b p k j : Nat) : (pst b p k j)[k]? = some ((k ^ j : Nat) : Int) := by
  unfold pst
  rw [List.getElem?_append_right (by rw [lst_len]; omega), lst_len, Nat.sub_self]
  rfl
theorem pst_at {b p k j : Nat} (h : k < (pst b p k j).length) : (pst b p k j)[k] = ((k ^ j : Nat) : Int) := (List.getElem?_eq_some_iff.1 (pst_get b p k j)).2

theorem powersOf_any (b p : Nat) (w : World) (hb : 2 ≤ b) (hb' : b ≤ 16) (hp : 1 ≤ p) (hp' : p ≤ 8) :
    Calls Try.prog 50 #[.int .i64 (b : Int), .int .i64 (p : Int)] w fun e w' => ∃ g c, e = .returned (.slice (some ⟨g, 0, none⟩) b c) ∧ w.heap.size ≤ g ∧ Tp w' g b p ∧ Below w.heap.size w w' := by
  go_enter Try.func50, Try.ntmps50
  go_wp2_with fail
  refine (repeatP_any _ _ b w.heap.size 1 _ (Rd.litB _ _ _ (Nat.le_refl _)) (by omega)).mono ?_
  rintro e w1 ⟨u, rfl, hr, hb1⟩
  obtain ⟨gu, cu, rfl⟩ : ∃ gu cu, u = .slice (some ⟨gu, 0, none⟩) b cu := by
    rcases hr.cases with ⟨_, hx⟩ | ⟨gu, cu, hu, _⟩
    · have := congrArg List.length hx; simp at this; omega
    · rw [List.length_replicate] at hu; exact ⟨gu, cu, hu⟩
  have hB1 : Below w.heap.size w w1 := ((Below.refl _ _).alloc (Nat.le_refl _) _).trans (hb1.mono (by simp))
  have HR1 := Lib.hid (hr.mono (show w.heap.size ≤ _ by simp))
  have HB1 := Lib.hid hB1
  have hg0 := HR1.out.at.2.1
  clear hr hb1 hB1
  go_wp2
  go_loopw [12] (fun i wr => ∃ k : Nat, k ≤ b ∧ i = .int .i64 (k : Int) ∧ Rd wr w.heap.size (.slice (some ⟨gu, 0, none⟩) b cu) (lst k (fun d => d ^ p) ++ List.replicate (b - k) 1) ∧ Below w.heap.size w wr) (fun i _ => b - (intOf i).toNat)
  case atStart => exact ⟨0, Nat.zero_le _, rfl, by simpa [lst] using HR1.out, HB1.out⟩
  case round =>
    obtain ⟨k, hk, rfl, hr, hbl⟩ := hrel
    have HR := Lib.hid hr
    have HB := Lib.hid hbl
    clear hr hbl
    by_cases hlt : k < b
    · obtain ⟨wo, hwo⟩ : ∃ wo : World, wo = wr := ⟨_, rfl⟩
      have HR0 := Lib.hid (show Rd wr w.heap.size (.slice (some ⟨gu, 0, none⟩) b cu) (pst b p k 0) by rw [pst_zero hlt]; exact HR.out)
      clear HR hwo
      go_wp2
      go_loopw [16] (fun i wq => ∃ j : Nat, j ≤ p ∧ i = .int .i64 (j : Int) ∧ Rd wq w.heap.size (.slice (some ⟨gu, 0, none⟩) b cu) (pst b p k j) ∧ Below w.heap.size w wq) (fun i _ => p - (intOf i).toNat)
      case atStart => exact ⟨0, Nat.zero_le _, rfl, HR0.out, HB.out⟩
      case round =>
        obtain ⟨j, hj, rfl, hr, hbl⟩ := hrel
        have HR := Lib.hid hr
        have HBq := Lib.hid hbl
        clear hr hbl
        by_cases hlj : j < p
        · have hkl : k < (pst b p k j).length := by rw [pst_len hlt]; exact hlt
          obtain ⟨hcs, hfs⟩ := HR.out.at.2.2.2.2
          have hcell := hcs k hkl
          rw [pst_at] at hcell
          have hf := hfs k
          obtain ⟨t, ht⟩ : ∃ t, t = k ^ j := ⟨_, rfl⟩
          obtain ⟨s, hs⟩ : ∃ s, s = t * k := ⟨_, rfl⟩
          have HS := Lib.hid (show k ^ (j + 1) = s by rw [Nat.pow_succ, hs, ht])
          have hts : (t : Int) * (k : Int) = (s : Int) := by rw [hs]; push_cast; rfl
          have hsb : s ≤ 2562890625 := by rw [← HS.out]; exact pow_le8 (by omega) (by omega)
          rw [← ht] at hcell
          have HSt := Lib.hid (HR.out.set k (s : Int))
          have HBs := Lib.hid (HBq.out.setCell (p := ⟨gu, k, none⟩) hg0 (.int .i64 (s : Int)))
          clear hcs hfs hs ht
          go_wp2
          go_roundw
          case rel => exact ⟨j + 1, by omega, by go_num, by rw [← pst_set b p k j s HS.out]; exact HSt.out.1, HBs.out⟩
          case measure => simp [intOf]; omega
        · obtain rfl : j = p := by omega
          have HRe := Lib.hid (show Rd _ w.heap.size (.slice (some ⟨gu, 0, none⟩) b cu) (lst (k + 1) (fun d => d ^ j) ++ List.replicate (b - (k + 1)) 1) by rw [← pst_end hlt]; exact HR.out)
          go_wp2
          go_roundw
          case rel => exact ⟨k + 1, by omega, by go_num, HRe.out, HBq.out⟩
          case measure => simp [intOf]; omega
    · obtain rfl : k = b := by omega
      have HRe := Lib.hid (show Rd wr w.heap.size (.slice (some ⟨gu, 0, none⟩) k cu) (lst k (fun d => d ^ p)) by have := HR.out; rw [Nat.sub_self, List.replicate_zero, List.append_nil] at this; exact this)
      go_wp2
      go_ret
      exact ⟨gu, cu, rfl, hg0, ⟨HRe.out.at.2.2.1, fun j hj => by rw [HRe.out.at.2.2.2.2.1 j (by rw [lst_len]; exact hj), lst_at]⟩, HB.out⟩

theorem radixP_any (b g c : Nat) (w : World) (hb : b ≤ 16) :
    Calls Try.prog 81 #[.slice (some ⟨g, 0, none⟩) b c] w fun e w' => e = .returned (.int .i64 (b : Int)) ∧ w = w' := by
  go_enter Try.func81, Try.ntmps81
  go_wp2
  go_ret
  exact ⟨rfl, rfl⟩

theorem sumP_any (g c b p n : Nat) (w : World) (hT : Tp w g b p) (hb : 2 ≤ b) (hb' : b ≤ 16) (hp : 1 ≤ p) (hp' : p ≤ 8) (hn : n ≤ 1000000000000) :
    Calls Try.prog 51 #[.slice (some ⟨g, 0, none⟩) b c, .int .i64 (n : Int)] w fun e w' => e = .returned (.int .i64 ((ps b p n : Nat) : Int)) ∧ Below w.heap.size w w' := by
  have HT := Lib.hid hT
  have hbd := ps_le8 (p := p) hb hb' hp' hn
  obtain ⟨z, hz⟩ : ∃ z, z = ps b p n := ⟨_, rfl⟩
  obtain ⟨xs, hxs⟩ : ∃ xs, xs = dgs (b : Int) (n : Int) := ⟨_, rfl⟩
  have HX := Lib.hid hxs
  have hlen : xs.length ≤ 40 := by rw [hxs]; exact dgs_len40 _ _ (by omega) (by omega) (by omega)
  have hall := Lib.hid (show ∀ x ∈ xs, 0 ≤ x ∧ x ≤ (b : Int) - 1 by rw [hxs]; exact dgs_all _ _ (by omega) (by omega))
  have HPS := Lib.hid (show psl p xs = z by rw [hxs, hz]; exact psl_dgs hb hp n)
  rw [← hz] at hbd ⊢
  clear hT hz hxs
  go_enter Try.func51, Try.ntmps51
  go_wp2_with (go_at_call 81; refine (radixP_any b g c _ hb').mono ?_; rintro e w1 ⟨rfl, rfl⟩)
  refine (digits_any _ _ _ (by omega) (by omega) (by omega) (by omega)).mono ?_
  rintro e w1 ⟨g1, cap1, rfl, hr, hbl⟩
  rw [← HX.out] at hr
  rw [← HX.out]
  have HB := Lib.hid hbl
  have HR := Lib.hid hr
  have HT1 := Lib.hid (HT.out.keep hbl)
  clear hbl hr
  go_wp2
  go_loop [5, 13] (fun s i => ∃ k : Nat, k ≤ xs.length ∧ i = .int .i64 (k : Int) ∧ s = .int .i64 ((psl p (xs.take k) : Nat) : Int)) (fun _ i => xs.length - (intOf i).toNat)
  case atStart => exact ⟨0, Nat.zero_le _, rfl, rfl⟩
  case round =>
    obtain ⟨k, hk, rfl, rfl⟩ := hrel
    by_cases hlt : k < xs.length
    · have hcell := HR.out.at.2.2.2.2.1 k hlt
      obtain ⟨x1, x2⟩ := hall.out _ (List.getElem_mem hlt)
      obtain ⟨d, hd⟩ : ∃ d : Nat, xs[k] = (d : Int) := ⟨xs[k].toNat, by omega⟩
      have hst := psl_snoc p xs k hlt
      have hle := psl_take_le p xs (k + 1)
      rw [HPS.out] at hle
      rw [hd] at hst hcell
      have hdb : d < b := by omega
      have hcd := HT1.out.cell d hdb
      have e1 : ((d : Int)).toNat ^ p = d ^ p := rfl
      rw [e1] at hst
      obtain ⟨u, hu⟩ : ∃ u, u = d ^ p := ⟨_, rfl⟩
      obtain ⟨t, ht⟩ : ∃ t, t = psl p (xs.take k) := ⟨_, rfl⟩
      rw [← hu] at hcd hst
      rw [← ht] at hst ⊢
      have hub : t + u ≤ z := by omega
      have HST := Lib.hid hst
      clear hst hle hd x1 x2 e1 hu ht
      go_wp2
      go_round
      case rel => exact ⟨k + 1, by omega, by go_num, by rw [HST.out]; go_num⟩
      case measure => simp [intOf]; omega
    · obtain rfl : k = xs.length := by omega
      have HE := Lib.hid (show psl p (xs.take xs.length) = z by rw [List.take_of_length_le (Nat.le_refl _)]; exact HPS.out)
      go_wp2
      go_ret
      exact ⟨by first | rw [HE.out]; rfl | rw [HPS.out]; rfl, HB.out⟩

theorem fallsP_any (g c b p : Nat) (w : World) (hT : Tp w g b p) (hb : 2 ≤ b) (hb' : b ≤ 16) (hp : 1 ≤ p) (hp' : p ≤ 8) :
    Calls Try.prog 57 #[.slice (some ⟨g, 0, none⟩) b c] w fun e w' => e = .returned (.int .i64 ((ff b p : Nat) : Int)) ∧ w = w' := by
  obtain ⟨f1, f2, f3, f4, f5, _⟩ := ff_spec hb hb' hp hp'
  have hb1 : (b : Int) - 1 = ((b - 1 : Nat) : Int) := by omega
  have hcell := hT.cell (b - 1) (by omega)
  obtain ⟨u, hu⟩ : ∃ u, u = (b - 1) ^ p := ⟨_, rfl⟩
  have hub : u ≤ 2562890625 := by rw [hu]; exact pow_le8 (by omega) hp'
  obtain ⟨z, hz⟩ : ∃ z, z = ff b p := ⟨_, rfl⟩
  rw [← hu] at f3 f5 hcell
  rw [← hz] at f1 f2 f3 f4 f5 ⊢
  have F3 := Lib.hid f3
  have F4 := Lib.hid f4
  have F5 := Lib.hid f5
  have HM := Lib.hid (fun (k : Nat) (hk : k ≤ z) => Nat.pow_le_pow_right (show b > 0 by omega) (show k - 1 ≤ z - 1 by omega))
  clear hT f3 f4 f5 hu hz
  go_enter Try.func57, Try.ntmps57
  go_wp2
  go_loop [3, 4] (fun kk l => ∃ k t : Nat, 1 ≤ k ∧ k ≤ z ∧ t = b ^ (k - 1) ∧ kk = .int .i64 (k : Int) ∧ l = .int .i64 (t : Int)) (fun kk _ => z - (intOf kk).toNat)
  case atStart => exact ⟨1, 1, by omega, by omega, rfl, rfl, rfl⟩
  case round =>
    obtain ⟨k, t, k1, kz, ht, rfl, rfl⟩ := hrel
    have HT := Lib.hid ht
    have htb : t ≤ 1000000000000000 := by have h1 := HM.out k kz; have h2 := F4.out; rw [ht]; omega
    clear ht
    obtain ⟨s, hs⟩ : ∃ s, s = k * u := ⟨_, rfl⟩
    have hts : (k : Int) * (u : Int) = (s : Int) := by rw [hs]; push_cast; rfl
    have hsb : s ≤ 102515625000 := by rw [hs]; exact Nat.le_trans (Nat.mul_le_mul (show k ≤ 40 by omega) hub) (by omega)
    have HS := Lib.hid hs
    clear hs
    by_cases hlt : k < z
    · have hge : t ≤ s := by have := F5.out k k1 hlt; rw [HT.out, HS.out]; exact this
      obtain ⟨v, hv⟩ : ∃ v, v = t * b := ⟨_, rfl⟩
      have hvs : (t : Int) * (b : Int) = (v : Int) := by rw [hv]; push_cast; rfl
      have HV := Lib.hid (show v = b ^ (k + 1 - 1) by rw [hv, HT.out, Nat.add_sub_cancel]; conv => rhs; rw [show k = (k - 1) + 1 from by omega, Nat.pow_succ])
      have hvb : v ≤ 1000000000000000 := by have h1 := HM.out (k + 1) (by omega); have h2 := F4.out; rw [HV.out]; omega
      clear hv
      go_wp2
      go_round
      case rel => exact ⟨k + 1, v, by omega, by omega, HV.out, by go_num, by first | rfl | rw [hvs]⟩
      case measure => simp [intOf]; omega
    · obtain rfl : k = z := by omega
      have hge : ¬ t ≤ s := by have := F3.out; rw [HT.out, HS.out]; omega
      have hge2 : s < t := by omega
      go_wp2
      go_ret
      exact ⟨rfl, rfl⟩

theorem below_drewN3 (w : World) (n : Nat) : Below w.heap.size w (w.drewN n) := by
  have h := Below.refl w.heap.size w
  exact ⟨h.os, h.tape, h.output, h.size, h.block⟩

theorem greatestP_any (g c b p : Nat) (w : World) (hT : Tp w g b p) (hb : 2 ≤ b) (hb' : b ≤ 16) (hp : 1 ≤ p) (hp' : p ≤ 8) :
    Calls Try.prog 52 #[.slice (some ⟨g, 0, none⟩) b c] w fun e w' => e = .returned (.int .i64 ((gs b p : Nat) : Int)) ∧ Below w.heap.size w w' := by
  have h1 := (ff_spec hb hb' hp hp').1
  have h2 := (ff_spec hb hb' hp hp').2.1
  have hb1 : (b : Int) - 1 = ((b - 1 : Nat) : Int) := by omega
  have hcell0 := hT.cell (b - 1) (by omega)
  obtain ⟨u, hu⟩ : ∃ u, u = (b - 1) ^ p := ⟨_, rfl⟩
  have hub : u ≤ 2562890625 := by rw [hu]; exact pow_le8 (by omega) hp'
  have HFP2 := Lib.hid (show ∀ w' : World, Tp w' g b p → Calls Try.prog 57 #[.slice (some ⟨g, 0, none⟩) b c] w' fun e w'' => e = .returned (.int .i64 ((ff b p : Nat) : Int)) ∧ w'' = w' from fun w' h => (fallsP_any g c b p w' h hb hb' hp hp').mono (fun e w'' h => ⟨h.1, h.2.symm⟩))
  obtain ⟨z, hz⟩ : ∃ z, z = ff b p := ⟨_, rfl⟩
  rw [← hz] at HFP2 h1 h2
  obtain ⟨s, hs⟩ : ∃ s, s = (z - 1) * u := ⟨_, rfl⟩
  have HG := Lib.hid (show gs b p = s by unfold gs; rw [← hz, ← hu, hs])
  have hts : ((z : Int) - 1) * (u : Int) = (s : Int) := by rw [hs, show (z : Int) - 1 = ((z - 1 : Nat) : Int) by omega]; push_cast; rfl
  have hsb : s ≤ 102515625000 := by rw [hs]; exact Nat.le_trans (Nat.mul_le_mul (show z - 1 ≤ 40 by omega) hub) (by omega)
  rw [← hu] at hcell0
  have HT := Lib.hid hT
  clear hz hu hs hT
  go_enter Try.func52, Try.ntmps52
  go_wp2
  go_wp2_with fail
  go_quiet (first | (go_at_call 57; exact Calls.quiet_of_same (HFP2.out _ (HT.out.drewN _))))
  go_wp2
  go_ret
  exact ⟨by rw [HG.out]; first | rfl | rw [hts], below_drewN3 w nq⟩

end Go.Proofs.Ytnniiobiedfmoaa
