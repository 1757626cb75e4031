/-
  Answers of ApplyMap.
-/
import Derived.Test.YticagncemlnafaaPH
namespace Go.Proofs.Yticagncemlnafaa
open Go.RowKit
set_option linter.unusedVariables false
set_option linter.unusedSimpArgs false
set_option maxRecDepth 100000

def OK_ApplyMap (xs : List Int) (x k : Int) : Bool := (goodM xs && inM xs.length x) && stepsK k
def VA_ApplyMap (xs : List Int) (x k : Int) : Int := if OK_ApplyMap xs x k = true then ((it (fnO xs) k.toNat x.toNat : Nat) : Int) else 0
abbrev R_ApplyMap (xs : List Int) (x k : Int) : Value := .tuple #[.int .i64 (VA_ApplyMap xs x k), .bool (OK_ApplyMap xs x k)]

theorem impl_ApplyMap (v : Value) (xs : List Int) (x k : Int) (B : Nat) (w : World) (h : Rd w B v xs) (hl : xs.length ≤ 1048576) :
    Calls Try.prog 24 #[v, .int .i64 x, .int .i64 k] w fun e w' => e = .returned (R_ApplyMap xs x k) ∧ Below w.heap.size w w' := by
  have H1 := Lib.hid h
  have HX := Lib.hid hl
  cases q1 : goodM xs
  · have HO := Lib.hid (show OK_ApplyMap xs x k = false by unfold OK_ApplyMap; rw [q1]; rfl)
    have HL := Lib.hid (show VA_ApplyMap xs x k = 0 by unfold VA_ApplyMap; rw [HO.out]; rfl)
    clear h hl
    go_enter Try.func24, Try.ntmps24
    go_wp2_with (go_at_call 21; refine (IsMap_any _ xs _ _ H1.out (by have := HX.out; omega)).mono ?_; rw [q1]; rintro e w1 ⟨rfl, rfl⟩)
    go_ret2
    exact ⟨by unfold R_ApplyMap; rw [HO.out, HL.out]; rfl, Below.refl _ _⟩
  · obtain ⟨g, n, cap, f, rfl, hm, hn, hf, hxs, _⟩ := h.good q1
    have n1 := hm.n1
    have HM := Lib.hid hm
    by_cases hx : 0 ≤ x ∧ x < n
    · have q2 := inM_yes hx.1 hx.2
      obtain ⟨y, rfl⟩ : ∃ y : Nat, x = (y : Int) := ⟨x.toNat, by omega⟩
      have hyn : y < n := by omega
      cases q3 : stepsK k
      · have HO := Lib.hid (show OK_ApplyMap xs (y : Int) k = false by unfold OK_ApplyMap; rw [q3, Bool.and_false])
        have HL := Lib.hid (show VA_ApplyMap xs (y : Int) k = 0 by unfold VA_ApplyMap; rw [HO.out]; rfl)
        clear h hl hm hn hf hxs hx
        go_enter Try.func24, Try.ntmps24
        go_wp2_with (first | (go_at_call 21; refine (IsMap_any _ xs _ _ H1.out (by have := HX.out; omega)).mono ?_; rw [q1]; rintro e w1 ⟨rfl, rfl⟩) | (go_at_call 59; refine (isMapped_any _ _ _ _ _ (by omega)).mono ?_; rintro e w1 ⟨rfl, rfl⟩) | (go_at_call 63; refine (areMapSteps_any _ _).mono ?_; rw [q3]; rintro e w1 ⟨rfl, rfl⟩))
        go_ret2
        exact ⟨by unfold R_ApplyMap; rw [HO.out, HL.out]; rfl, Below.refl _ _⟩
      · obtain ⟨k0, k1⟩ := stepsK_iff.1 q3
        obtain ⟨j, rfl⟩ : ∃ j : Nat, k = (j : Int) := ⟨k.toNat, by omega⟩
        have HO := Lib.hid (show OK_ApplyMap xs (y : Int) (j : Int) = true by unfold OK_ApplyMap; rw [q1, ← hn, q2, q3]; rfl)
        have HL := Lib.hid (show VA_ApplyMap xs (y : Int) (j : Int) = ((it f j y : Nat) : Int) by unfold VA_ApplyMap; rw [if_pos HO.out, ← hf]; rfl)
        clear h hl hm hn hf hxs hx
        go_enter Try.func24, Try.ntmps24
        go_wp2_with (first | (go_at_call 21; refine (IsMap_any _ xs _ _ H1.out (by have := HX.out; omega)).mono ?_; rw [q1]; rintro e w1 ⟨rfl, rfl⟩) | (go_at_call 59; refine (isMapped_any _ _ _ _ _ (by omega)).mono ?_; rintro e w1 ⟨rfl, rfl⟩) | (go_at_call 63; refine (areMapSteps_any _ _).mono ?_; rw [q3]; rintro e w1 ⟨rfl, rfl⟩) | (go_at_call 64; refine (power_any g n cap f j _ HM.out (by omega)).mono ?_; rintro e w1 ⟨g3, c3, rfl, hr, hb⟩; have HB := Lib.hid hb; have hcell := (hr.mp (it_into HM.out.into j) HM.out.n0 n1).cell y hyn; clear hr hb))
        go_ret2
        exact ⟨by unfold R_ApplyMap; rw [HO.out, HL.out]; rfl, HB.out⟩
    · have q2 := inM_no (n := n) (x := x) (by omega)
      have HO := Lib.hid (show OK_ApplyMap xs x k = false by unfold OK_ApplyMap; rw [q1, ← hn, q2]; rfl)
      have HL := Lib.hid (show VA_ApplyMap xs x k = 0 by unfold VA_ApplyMap; rw [HO.out]; rfl)
      clear h hl hm hn hf hxs hx
      go_enter Try.func24, Try.ntmps24
      go_wp2_with (first | (go_at_call 21; refine (IsMap_any _ xs _ _ H1.out (by have := HX.out; omega)).mono ?_; rw [q1]; rintro e w1 ⟨rfl, rfl⟩) | (go_at_call 59; refine (isMapped_any _ _ _ _ _ (by omega)).mono ?_; rintro e w1 ⟨rfl, rfl⟩))
      go_ret2
      exact ⟨by unfold R_ApplyMap; rw [HO.out, HL.out]; rfl, Below.refl _ _⟩

theorem spec_ApplyMap (v : Value) (xs : List Int) (x k : Int) (B : Nat) (w : World) (h : Rd w B v xs) (hl : xs.length ≤ 1048576) :
    Calls Try.prog 23 #[v, .int .i64 x, .int .i64 k] w fun e w' => e = .returned (R_ApplyMap xs x k) ∧ Below w.heap.size w w' := by
  have H1 := Lib.hid h
  have HX := Lib.hid hl
  cases q1 : (goodM xs && inM xs.length x)
  · have HO := Lib.hid (show OK_ApplyMap xs x k = false by unfold OK_ApplyMap; rw [q1]; rfl)
    have HL := Lib.hid (show VA_ApplyMap xs x k = 0 by unfold VA_ApplyMap; rw [HO.out]; rfl)
    clear h hl
    go_enter Try.func23, Try.ntmps23
    go_wp2_with (go_at_call 60; refine (mpX_any _ xs _ _ _ H1.out (by have := HX.out; omega)).mono ?_; rw [q1]; rintro e w1 ⟨rfl, rfl⟩)
    go_ret2
    exact ⟨by unfold R_ApplyMap; rw [HO.out, HL.out]; rfl, Below.refl _ _⟩
  · cases q3 : stepsK k
    · have HO := Lib.hid (show OK_ApplyMap xs x k = false by unfold OK_ApplyMap; rw [q3, Bool.and_false])
      have HL := Lib.hid (show VA_ApplyMap xs x k = 0 by unfold VA_ApplyMap; rw [HO.out]; rfl)
      clear h hl
      go_enter Try.func23, Try.ntmps23
      go_wp2_with (first | (go_at_call 60; refine (mpX_any _ xs _ _ _ H1.out (by have := HX.out; omega)).mono ?_; rw [q1]; rintro e w1 ⟨rfl, rfl⟩) | (go_at_call 61; refine (mpSteps_any _ _).mono ?_; rw [q3]; rintro e w1 ⟨rfl, rfl⟩))
      go_ret2
      exact ⟨by unfold R_ApplyMap; rw [HO.out, HL.out]; rfl, Below.refl _ _⟩
    · obtain ⟨k0, k1⟩ := stepsK_iff.1 q3
      obtain ⟨qa, qb⟩ := Bool.and_eq_true_iff.1 q1
      obtain ⟨g, n, cap, f, rfl, hm, hn, hf, hxs, _⟩ := h.good qa
      have HM := Lib.hid hm
      have qb2 := qb
      rw [← hn, inM_iff] at qb2
      obtain ⟨y, rfl⟩ : ∃ y : Nat, x = (y : Int) := ⟨x.toNat, by omega⟩
      obtain ⟨j, rfl⟩ : ∃ j : Nat, k = (j : Int) := ⟨k.toNat, by omega⟩
      have hyn : y < n := by omega
      have HO := Lib.hid (show OK_ApplyMap xs (y : Int) (j : Int) = true by unfold OK_ApplyMap; rw [q1, q3]; rfl)
      have HL := Lib.hid (show VA_ApplyMap xs (y : Int) (j : Int) = ((it f j y : Nat) : Int) by unfold VA_ApplyMap; rw [if_pos HO.out, ← hf]; rfl)
      clear h hl hm hn hf hxs qb2 qa qb
      go_enter Try.func23, Try.ntmps23
      go_wp2_with (first | (go_at_call 60; refine (mpX_any _ xs _ _ _ H1.out (by have := HX.out; omega)).mono ?_; rw [q1]; rintro e w1 ⟨rfl, rfl⟩) | (go_at_call 61; refine (mpSteps_any _ _).mono ?_; rw [q3]; rintro e w1 ⟨rfl, rfl⟩) | (go_at_call 62; refine (mpAt_any g n cap f y j _ HM.out hyn (by omega)).mono ?_; rintro e w1 ⟨rfl, rfl⟩))
      go_ret2
      exact ⟨by unfold R_ApplyMap; rw [HO.out, HL.out]; rfl, Below.refl _ _⟩

end Go.Proofs.Yticagncemlnafaa
