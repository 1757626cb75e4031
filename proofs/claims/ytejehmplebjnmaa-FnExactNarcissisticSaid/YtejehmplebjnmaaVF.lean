/-
  Answers: numbers that are their own power sums.
-/
import Derived.Test.YtejehmplebjnmaaVE
import Derived.Test.YtejehmplebjnmaaVC
import Derived.Test.YtejehmplebjnmaaUE
namespace Go.Proofs.Ytejehmplebjnmaa
open Go.RowKit
set_option linter.unusedVariables false
set_option linter.unusedSimpArgs false
set_option maxRecDepth 100000

def OKO (b p : Int) : Bool := decide (Bas10 b ∧ Pow p 6)
def LF_OwnPowers (b p : Int) : List Int := if OKO b p = true then ownL b.toNat p.toNat else []
theorem oko_cases (b p : Int) : (OKO b p = true ∧ ∃ B P : Nat, b = (B : Int) ∧ p = (P : Int) ∧ 2 ≤ B ∧ B ≤ 10 ∧ 1 ≤ P ∧ P ≤ 6) ∨ OKO b p = false := by
  cases h : OKO b p
  · exact .inr rfl
  · obtain ⟨h2, h3⟩ := of_decide_eq_true h
    obtain ⟨h2a, h2b⟩ := h2
    obtain ⟨h3a, h3b⟩ := h3
    exact .inl ⟨rfl, b.toNat, p.toNat, by omega, by omega, by omega, by omega, by omega, by omega⟩
theorem LF_OwnPowers_len (b p : Int) : (LF_OwnPowers b p).length ≤ 2000000 := by
  unfold LF_OwnPowers
  rcases oko_cases b p with ⟨h, B, P, rfl, rfl, h1, h2, h3, h4⟩ | h
  · rw [if_pos h]
    have := ownL_len h1 h2 h3 h4
    show (ownL B P).length ≤ _
    omega
  · rw [h]; simp

/-- What is found with up to K digits are all numbers that are their own power sums. -/
theorem fnd_places {b p : Nat} (hb : 2 ≤ b) (hb' : b ≤ 16) (hp : 1 ≤ p) (hp' : p ≤ 8) (z : Int) : (∃ j, 1 ≤ j ∧ j < places b p + 1 ∧ Fnd b p j (b - 1) 0 (List.replicate b 0) z) ↔ z ∈ ownL b p := by
  rw [ownL_mem hb hb' hp hp']
  constructor
  · rintro ⟨j, _, _, h⟩
    obtain ⟨X, h1, h2, _⟩ := (fnd_all hb hp z).1 h
    exact ⟨X, h1, h2⟩
  · rintro ⟨X, rfl, hX⟩
    have h2 := (ff_spec hb hb' hp hp').1
    have hl := dgs_lenb (k := places b p) hb (by unfold places; omega) (own_lt hb hb' hp hp' hX)
    exact ⟨_, dgs_pos _ _, by omega, (fnd_all hb hp _).2 ⟨X, rfl, hX, rfl⟩⟩

theorem try_first (gw b p B : Nat) (hb : 2 ≤ b) (hb' : b ≤ 10) (hp : 1 ≤ p) (hp' : p ≤ 6) (n gc cc : Nat) (v : Value) (fs : List Int) (w : World) (hn : n ≤ 8)
    (hS : Srch w gw b p v) (hF : Rd w B v fs) (hR : fs.Pairwise (· < ·)) (hO : ∀ z ∈ fs, z ∈ ownL b p) (hC : Rd w B (.slice (some ⟨gc, 0, none⟩) b cc) (List.replicate b 0)) (hB : B ≤ w.heap.size) (c : Nat) (hc : c = b - 1) :
    Calls Try.prog 78 #[.pointer (some ⟨gw, 0, none⟩), .int .i64 (n : Int), .int .i64 (c : Int), .int .i64 0, .slice (some ⟨gc, 0, none⟩) b cc] w fun e w' => e = .returned (.tuple #[]) ∧
      ∃ v' fs', Srch w' gw b p v' ∧ Rd w' B v' fs' ∧ fs'.Pairwise (· < ·) ∧ (∀ z, z ∈ fs' ↔ z ∈ fs ∨ Fnd b p n (b - 1) 0 (List.replicate b 0) z) ∧ (∀ z ∈ fs', z ∈ ownL b p) ∧ w.grownBy w' (some gw) := by
  subst hc
  refine (try_any gw b p B hb hb' hp hp' n (b - 1) gc cc [] v fs w (by omega) (fun d hd => by simp at hd) (by simp; omega) hS hF hR hO hC hB).mono ?_
  rintro e w' ⟨rfl, v', fs', h1, h2, h3, h4, h5⟩
  refine ⟨rfl, v', fs', h1, h2, h3, h4, fun z hz => ?_, h5⟩
  rcases (h4 z).1 hz with h | h
  · exact hO z h
  · exact fnd_own hb (by omega) hp (by omega) (ds := []) (fun d hd => by simp at hd) (show b - 1 < b by omega) h

theorem spec_OwnPowers (b p : Int) (w : World) :
    Calls Try.prog 45 #[.int .i64 b, .int .i64 p] w fun e w' => ∃ u, e = .returned (.tuple #[u, .bool (OKO b p)]) ∧ Rd w' w.heap.size u (LF_OwnPowers b p) ∧ Below w.heap.size w w' := by
  rcases oko_cases b p with ⟨hok, B, P, rfl, rfl, h1, h2, h3, h4⟩ | hn
  · have HO := Lib.hid hok
    have HL := Lib.hid (show LF_OwnPowers (B : Int) (P : Int) = ownL B P by unfold LF_OwnPowers; rw [if_pos hok]; rfl)
    have a2 : decide (Pow (P : Int) 6) = true := decide_eq_true ⟨by omega, by omega⟩
    have m0 : (2 : Int) ≤ (B : Int) := by omega
    have m1 : (B : Int) ≤ 10 := by omega
    have hf2 := (ff_spec h1 (show B ≤ 16 by omega) h3 (show P ≤ 8 by omega)).1
    have hf3 := places_bd h1 h2 h3 h4
    have HFP := Lib.hid (fnd_places h1 (show B ≤ 16 by omega) h3 (show P ≤ 8 by omega))
    have HFL := Lib.hid (show ∀ w' : World, Calls Try.prog 63 #[.int .i64 (B : Int), .int .i64 (P : Int)] w' fun e w'' => e = .returned (.int .i64 ((ff B P : Nat) : Int)) ∧ w'' = w' from fun w' => (pwFalls_any B P w' h1 (by omega) h3 (by omega)).mono (fun e w'' h => ⟨h.1, h.2.symm⟩))
    obtain ⟨K, hK⟩ : ∃ K, K = places B P := ⟨_, rfl⟩
    obtain ⟨z, hz⟩ : ∃ z, z = ff B P := ⟨_, rfl⟩
    have hzK : z = K + 1 := by rw [hK, hz]; unfold places; omega
    rw [← hz] at HFL
    rw [← hK] at HFP hf3
    obtain ⟨c, hc⟩ : ∃ c, c = B - 1 := ⟨_, rfl⟩
    have hb1 : (B : Int) - 1 = (c : Int) := by omega
    have HCC := Lib.hid hc
    have HS0 := Lib.hid (show Srch (w.alloc (.cells #[.int .i64 (B : Int), .int .i64 (P : Int), .slice none 0 0] 66)) w.heap.size B P (.slice none 0 0) from heap_alloc_new w _)
    have HZK := Lib.hid hzK
    clear hok hK hz hc hzK hf2
    go_enter Try.func45, Try.ntmps45
    go_wp2_with (first | (go_at_call 67; refine (l1In_yes _ _ _ _ m0 m1).mono ?_; rintro e w1 ⟨rfl, rfl⟩) | (go_at_call 52; refine (pwPower_any _ _ _).mono ?_; rintro e w1 ⟨rfl, rfl⟩))
    go_loopw [7] (fun i wr => ∃ (k : Nat) (v : Value) (fs : List Int), 1 ≤ k ∧ k ≤ K + 1 ∧ i = .int .i64 (k : Int) ∧ Srch wr w.heap.size B P v ∧ Rd wr w.heap.size v fs ∧ fs.Pairwise (· < ·) ∧ (∀ z ∈ fs, z ∈ ownL B P) ∧ Hid (∀ z, z ∈ fs ↔ ∃ j, 1 ≤ j ∧ j < k ∧ Fnd B P j (B - 1) 0 (List.replicate B 0) z) ∧ Below w.heap.size w wr) (fun i _ => K + 1 - (intOf i).toNat)
    case atStart => exact ⟨1, _, [], by omega, by omega, rfl, HS0.out, Rd.nil _ _, List.Pairwise.nil, fun z hz => by simp at hz, Lib.hid (fun z => ⟨fun h => by simp at h, fun ⟨j, a1, a2, _⟩ => absurd a1 (by omega)⟩), alloc_below _ _⟩
    case round =>
      obtain ⟨k, v, fs, k1, kK, rfl, hS', hF', hR', hO', HM, hbl⟩ := hrel
      have HSr := Lib.hid hS'
      have HFr := Lib.hid hF'
      have HRr := Lib.hid hR'
      have HOr := Lib.hid hO'
      have HB := Lib.hid hbl
      have hsz := hbl.size
      clear hS' hF' hR' hO' hbl
      by_cases hlt : k < K + 1
      · have hkz : k < z := by have := HZK.out; omega
        go_wp2_with (first | (go_at_call 63; refine (HFL.out _).mono ?_; rintro e w1 ⟨rfl, rfl⟩) | (at_make; refine wpList_mkR rfl _ _ rfl .i64 .i64 _ _ B rfl rfl rfl rfl (by omega) ?_; intro w1 hr1 hg1 hb1; have R1 := Lib.hid (hr1.mono hsz); have B1 := Lib.hid (Below.step HB.out hsz hb1); have S1 := Lib.hid (HSr.out.keep hb1); have F1 := Lib.hid (HFr.out.keep hb1); clear hr1 hg1 hb1))
        refine (try_first _ B P w.heap.size h1 h2 h3 h4 k _ _ v fs _ (by omega) S1.out F1.out HRr.out HOr.out R1.out B1.out.size c HCC.out).mono ?_
        rintro e w3 ⟨rfl, v3, fs3, hS3, hF3, hR3, hM3, hO3, hg3⟩
        have S3 := Lib.hid hS3
        have F3 := Lib.hid hF3
        have R3 := Lib.hid hR3
        have O3 := Lib.hid hO3
        have HMN := Lib.hid (show ∀ z, z ∈ fs3 ↔ ∃ j, 1 ≤ j ∧ j < k + 1 ∧ Fnd B P j (B - 1) 0 (List.replicate B 0) z from fun z => by
          rw [hM3 z, HM.out z]
          constructor
          · rintro (⟨j, a1, a2, h⟩ | h)
            · exact ⟨j, a1, by omega, h⟩
            · exact ⟨k, k1, by omega, h⟩
          · rintro ⟨j, a1, a2, h⟩
            by_cases e : j = k
            · subst e; exact .inr h
            · exact .inl ⟨j, a1, by omega, h⟩)
        have B3 := Lib.hid (B1.out.trans (gw_below' hg3 (Nat.le_refl _) B1.out.size))
        clear hS3 hF3 hR3 hM3 hO3 hg3
        go_wp2
        go_roundw
        case rel => exact ⟨k + 1, v3, fs3, by omega, by omega, by go_num, S3.out, F3.out, R3.out, O3.out, HMN, B3.out⟩
        case measure => simp [intOf]; omega
      · obtain rfl : k = K + 1 := by omega
        have hkz : ¬ K + 1 < z := by have := HZK.out; omega
        have HE := Lib.hid (show fs = ownL B P from rise_unique HRr.out (cano_rise _) (fun z => (HM.out z).trans (HFP.out z)))
        have hcf := HSr.out.c2
        obtain ⟨a, c4, rfl⟩ := HFr.out.sl.len
        have hK2 : z = K + 1 := HZK.out
        have hzi : (z : Int) = (K : Int) + 1 := by omega
        clear hK2
        go_wp2_with (go_at_call 63; refine (HFL.out _).mono ?_; rintro e w1 ⟨rfl, rfl⟩)
        go_ret2
        exact ⟨_, by rw [HO.out]; rfl, by rw [HL.out, ← HE.out]; exact HFr.out, HB.out⟩
  · have HO := Lib.hid hn
    have HL := Lib.hid (show LF_OwnPowers b p = [] by unfold LF_OwnPowers; rw [hn]; rfl)
    have hnot := of_decide_eq_false hn
    by_cases hb : 2 ≤ b ∧ b ≤ 10
    · obtain ⟨m0, m1⟩ := hb
      have a2 : decide (Pow p 6) = false := decide_eq_false (fun h => hnot ⟨⟨m0, m1⟩, h⟩)
      clear hn hnot
      go_enter Try.func45, Try.ntmps45
      go_wp2_with (first | (go_at_call 67; refine (l1In_yes _ _ _ _ m0 m1).mono ?_; rintro e w1 ⟨rfl, rfl⟩) | (go_at_call 52; refine (pwPower_any _ _ _).mono ?_; rintro e w1 ⟨rfl, rfl⟩))
      go_ret2
      exact ⟨_, by rw [HO.out]; rfl, by rw [HL.out]; exact Rd.nil _ _, Below.refl _ _⟩
    · have H := Lib.hid (show b < 2 ∨ 10 < b by omega)
      clear hn hnot hb
      go_enter Try.func45, Try.ntmps45
      go_wp2_with (go_at_call 67; refine (l1In_no _ _ _ _ H.out).mono ?_; rintro e w1 ⟨rfl, rfl⟩)
      go_ret2
      exact ⟨_, by rw [HO.out]; rfl, by rw [HL.out]; exact Rd.nil _ _, Below.refl _ _⟩

theorem own_yes (B P : Nat) (w : World) (h1 : 2 ≤ B) (h2 : B ≤ 10) (h3 : 1 ≤ P) (h4 : P ≤ 6) :
    Calls Try.prog 46 #[.int .i64 (B : Int), .int .i64 (P : Int)] w fun e w' => ∃ gu cu, e = .returned (.tuple #[.slice (some ⟨gu, 0, none⟩) (ownL B P).length cu, .bool true]) ∧ Rd w' w.heap.size (.slice (some ⟨gu, 0, none⟩) (ownL B P).length cu) (ownL B P) ∧ Below w.heap.size w w' := by
  have a2 : decide (Bas10 (B : Int)) = true := decide_eq_true ⟨by omega, by omega⟩
  have a3 : decide (Pow (P : Int) 6) = true := decide_eq_true ⟨by omega, by omega⟩
  go_enter Try.func46, Try.ntmps46
  go_wp2_with (first | (go_at_call 69; refine (isSearchedBase_any _ _).mono ?_; rintro e w1 ⟨rfl, rfl⟩) | (go_at_call 56; refine (isPower_any _ _ _).mono ?_; rintro e w1 ⟨rfl, rfl⟩))
  refine (powersOf_any B P _ (by omega) (by omega) (by omega) (by omega)).mono ?_
  rintro e w1 ⟨g, c, rfl, hg, hT, hB⟩
  have HT := Lib.hid hT
  have HB := Lib.hid hB
  clear hg hT hB
  go_wp2_with fail
  refine (ownP_any g c B P _ HT.out h1 h2 h3 h4).mono ?_
  rintro e w2 ⟨gu, cu, rfl, hr, hb2⟩
  have HR := Lib.hid (hr.mono HB.out.size)
  have HB2 := Lib.hid (Below.step HB.out HB.out.size hb2)
  clear hr hb2
  go_wp2
  go_ret2
  exact ⟨gu, cu, rfl, HR.out, HB2.out⟩

theorem own_no (b p : Int) (w : World) (hn : OKO b p = false) :
    Calls Try.prog 46 #[.int .i64 b, .int .i64 p] w fun e w' => e = .returned (.tuple #[.slice none 0 0, .bool false]) ∧ w = w' := by
  have hnot := of_decide_eq_false hn
  by_cases hb : Bas10 b
  · have a2 : decide (Bas10 b) = true := decide_eq_true hb
    have a3 : decide (Pow p 6) = false := decide_eq_false (fun h => hnot ⟨hb, h⟩)
    clear hn hnot hb
    go_enter Try.func46, Try.ntmps46
    go_wp2_with (first | (go_at_call 69; refine (isSearchedBase_any _ _).mono ?_; rintro e w1 ⟨rfl, rfl⟩) | (go_at_call 56; refine (isPower_any _ _ _).mono ?_; rintro e w1 ⟨rfl, rfl⟩))
    go_ret2
    exact ⟨rfl, rfl⟩
  · have a2 : decide (Bas10 b) = false := decide_eq_false hb
    clear hn hnot hb
    go_enter Try.func46, Try.ntmps46
    go_wp2_with (go_at_call 69; refine (isSearchedBase_any _ _).mono ?_; rintro e w1 ⟨rfl, rfl⟩)
    go_ret2
    exact ⟨rfl, rfl⟩

theorem impl_OwnPowers (b p : Int) (w : World) :
    Calls Try.prog 46 #[.int .i64 b, .int .i64 p] w fun e w' => ∃ u, e = .returned (.tuple #[u, .bool (OKO b p)]) ∧ Rd w' w.heap.size u (LF_OwnPowers b p) ∧ Below w.heap.size w w' := by
  rcases oko_cases b p with ⟨hok, B, P, rfl, rfl, h1, h2, h3, h4⟩ | hn
  · have HL : LF_OwnPowers (B : Int) (P : Int) = ownL B P := by unfold LF_OwnPowers; rw [if_pos hok]; rfl
    refine (own_yes B P w h1 h2 h3 h4).mono ?_
    rintro e w' ⟨gu, cu, rfl, hr, hb⟩
    exact ⟨_, by rw [hok], by rw [HL]; exact hr, hb⟩
  · have HL : LF_OwnPowers b p = [] := by unfold LF_OwnPowers; rw [hn]; rfl
    refine (own_no b p w hn).mono ?_
    rintro e w' ⟨rfl, rfl⟩
    exact ⟨_, by rw [hn], by rw [HL]; exact Rd.nil _ _, Below.refl _ _⟩

end Go.Proofs.Ytejehmplebjnmaa
