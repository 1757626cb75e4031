/-
  Answers of StepsToSymmetric.
-/
import Derived.Test.YteadgaecjoenlaaTV
import Derived.Test.YteadgaecjoenlaaTI
namespace Go.Proofs.Yteadgaecjoenlaa
open Go.RowKit
set_option linter.unusedVariables false
set_option linter.unusedSimpArgs false
set_option maxRecDepth 100000

/-- How many times digits need, if they may be asked for. -/
def R_Steps (xs : List Int) (b m : Int) : Option Nat := if okR b xs = true ∧ okM m = true then rvT b m.toNat xs else none
abbrev VAL_StepsToSymmetric (xs : List Int) (b m : Int) : Value := .tuple #[.int .i64 (((R_Steps xs b m).getD 0 : Nat) : Int), .bool (R_Steps xs b m).isSome]

theorem R_Steps_yes {xs : List Int} {b m : Int} (h1 : okR b xs = true) (h2 : okM m = true) : R_Steps xs b m = rvT b m.toNat xs := if_pos ⟨h1, h2⟩
theorem R_Steps_no1 {xs : List Int} {b m : Int} (h1 : okR b xs = false) : R_Steps xs b m = none := if_neg (fun h => by rw [h1] at h; cases h.1)
theorem R_Steps_no2 {xs : List Int} {b m : Int} (h1 : okM m = false) : R_Steps xs b m = none := if_neg (fun h => by rw [h1] at h; cases h.2)
theorem okM_nat {m : Int} (h : okM m = true) : ∃ k : Nat, m = (k : Int) ∧ k ≤ 100 := by
  have := of_decide_eq_true h
  exact ⟨m.toNat, by omega, by omega⟩

theorem impl_StepsToSymmetric (v : Value) (xs : List Int) (b m : Int) (B : Nat) (w : World) (h : Rd w B v xs) (hl : xs.length ≤ 1048576) :
    Calls Try.prog 28 #[v, .int .i64 b, .int .i64 m] w fun e w' => e = .returned (VAL_StepsToSymmetric xs b m) ∧ Below w.heap.size w w' := by
  have H := Lib.hid h
  obtain ⟨a, cap, rfl⟩ := h.sl.len
  clear h
  unfold VAL_StepsToSymmetric
  rcases okR_cases b xs with ⟨ho, hd⟩ | ho
  · have HO := Lib.hid ho
    have HD := Lib.hid hd
    by_cases hm : okM m = true
    · have HM := Lib.hid hm
      have hR := R_Steps_yes ho hm
      obtain ⟨k, rfl, hk⟩ := okM_nat hm
      rw [Int.toNat_natCast] at hR
      obtain ⟨T, hT⟩ : ∃ T, T = rvT b k xs := ⟨_, rfl⟩
      have HRT := Lib.hid (fun g cap w' (h : Rd w' w.heap.size (.slice (some ⟨g, 0, none⟩) xs.length cap) xs) (hD : w.heap.size ≤ w'.heap.size) => runTimes_any g cap xs b k w.heap.size w' h hD hd hk)
      rw [← hT] at HRT hR
      have hTk : ∀ q, T = some q → q ≤ 100 := fun q hq => Nat.le_trans (rvT_le (b := b) (most := k) (x0 := xs) (by rw [← hT]; exact hq)) hk
      rw [hR]
      clear hT hR ho hd hm
      cases T with
      | none =>
        go_enter Try.func28, Try.ntmps28
        go_wp2_with fail
        refine (long_yes _ _ _ _ _ H.out hl HO.out).mono ?_
        rintro e w1 ⟨g1, cap1, rfl, hr, hb1⟩
        have R1 := Lib.hid hr
        have B1 := Lib.hid hb1
        have HAL := Lib.hid (alloc_below w1 (.cells #[.slice (some ⟨g1, 0, none⟩) xs.length cap1, .int .i64 b] 49))
        have R2 := Lib.hid (R1.out.keep HAL.out)
        have B2 := Lib.hid (Below.step B1.out B1.out.size HAL.out)
        clear hr hb1
        go_wp2_with fail
        refine (areTimes_any _ _).mono ?_
        rw [HM.out]
        rintro e w2 ⟨rfl, rfl⟩
        go_wp2_with fail
        refine (HRT.out g1 cap1 _ R2.out B2.out.size).mono ?_
        rintro e w3 ⟨g', c', al, n, cl, rfl, hb3, ⟨gg, mm, rfl⟩, hnx⟩
        have B3 := Lib.hid (Below.step B2.out B2.out.size hb3)
        have NX := Lib.hid (hnx w3 (Below.refl _ _))
        clear hb3 hnx
        go_wp2_with fail
        refine NX.out.mono ?_
        rintro e w4 ⟨rfl, hb4⟩
        have B4 := Lib.hid (Below.step B3.out B3.out.size hb4)
        clear hb4
        simp only [tmN]
        go_wp2
        go_ret2
        exact ⟨rfl, B4.out⟩
      | some q =>
        have hq := hTk q rfl
        have hqn : ((q : Int) == -1) = false := beq_no (by omega)
        go_enter Try.func28, Try.ntmps28
        go_wp2_with fail
        refine (long_yes _ _ _ _ _ H.out hl HO.out).mono ?_
        rintro e w1 ⟨g1, cap1, rfl, hr, hb1⟩
        have R1 := Lib.hid hr
        have B1 := Lib.hid hb1
        have HAL := Lib.hid (alloc_below w1 (.cells #[.slice (some ⟨g1, 0, none⟩) xs.length cap1, .int .i64 b] 49))
        have R2 := Lib.hid (R1.out.keep HAL.out)
        have B2 := Lib.hid (Below.step B1.out B1.out.size HAL.out)
        clear hr hb1
        go_wp2_with fail
        refine (areTimes_any _ _).mono ?_
        rw [HM.out]
        rintro e w2 ⟨rfl, rfl⟩
        go_wp2_with fail
        refine (HRT.out g1 cap1 _ R2.out B2.out.size).mono ?_
        rintro e w3 ⟨g', c', al, n, cl, rfl, hb3, ⟨gg, mm, rfl⟩, hnx⟩
        have B3 := Lib.hid (Below.step B2.out B2.out.size hb3)
        have NX := Lib.hid (hnx w3 (Below.refl _ _))
        clear hb3 hnx
        go_wp2_with fail
        refine NX.out.mono ?_
        rintro e w4 ⟨rfl, hb4⟩
        have B4 := Lib.hid (Below.step B3.out B3.out.size hb4)
        clear hb4
        simp only [tmN]
        go_wp2
        go_ret2
        exact ⟨rfl, B4.out⟩
    · have hm' : okM m = false := by simpa using hm
      have HM := Lib.hid hm'
      rw [R_Steps_no2 hm']
      clear ho hd hm hm'
      go_enter Try.func28, Try.ntmps28
      go_wp2_with fail
      refine (long_yes _ _ _ _ _ H.out hl HO.out).mono ?_
      rintro e w1 ⟨g1, cap1, rfl, hr, hb1⟩
      have B1 := Lib.hid hb1
      clear hr hb1
      go_wp2_with fail
      refine (areTimes_any _ _).mono ?_
      rw [HM.out]
      rintro e w2 ⟨rfl, rfl⟩
      go_wp2
      go_ret2
      exact ⟨rfl, Below.step B1.out B1.out.size (alloc_below w1 _)⟩
  · have HO := Lib.hid ho
    rw [R_Steps_no1 ho]
    clear ho
    go_enter Try.func28, Try.ntmps28
    go_wp2_with fail
    refine (long_no _ _ _ _ _ H.out hl HO.out).mono ?_
    rintro e w1 ⟨rfl, hb1⟩
    have B1 := Lib.hid hb1
    clear hb1
    go_wp2
    go_ret2
    exact ⟨rfl, Below.step B1.out B1.out.size (alloc_below w1 _)⟩

theorem spec_StepsToSymmetric (v : Value) (xs : List Int) (b m : Int) (B : Nat) (w : World) (h : Rd w B v xs) (hl : xs.length ≤ 1048576) :
    Calls Try.prog 27 #[v, .int .i64 b, .int .i64 m] w fun e w' => e = .returned (VAL_StepsToSymmetric xs b m) ∧ Below w.heap.size w w' := by
  have H := Lib.hid h
  obtain ⟨a, cap, rfl⟩ := h.sl.len
  clear h
  unfold VAL_StepsToSymmetric
  rcases okR_cases b xs with ⟨ho, hd⟩ | ho
  · have HO := Lib.hid ho
    have HD := Lib.hid hd
    by_cases hm : okM m = true
    · have HM := Lib.hid hm
      have hR := R_Steps_yes ho hm
      obtain ⟨k, rfl, hk⟩ := okM_nat hm
      rw [Int.toNat_natCast] at hR
      obtain ⟨T, hT⟩ : ∃ T, T = rvT b k xs := ⟨_, rfl⟩
      have HRT := Lib.hid (fun w' (h : Rd w' B (.slice a xs.length cap) xs) => rvSteps_any _ xs b k B w' h hd hk)
      rw [← hT] at HRT hR
      rw [hR]
      clear hT hR ho hd hm
      go_enter Try.func27, Try.ntmps27
      go_wp2_with (first
        | (go_at_call 46; go_loud (refine (rvGood_any _ _ _ _ _ H.out hl).mono ?_; rw [HO.out]; rintro e w1 ⟨rfl, rfl⟩))
        | (go_at_call 57; go_loud (refine (rvMost_any _ _).mono ?_; rw [HM.out]; rintro e w1 ⟨rfl, rfl⟩))
        | (go_at_call 58; go_loud (refine (HRT.out _ H.out).mono ?_; rintro e w1 ⟨rfl, hb1⟩; have B1 := Lib.hid hb1; clear hb1)))
      go_ret2
      exact ⟨rfl, B1.out⟩
    · have hm' : okM m = false := by simpa using hm
      have HM := Lib.hid hm'
      rw [R_Steps_no2 hm']
      clear ho hd hm hm'
      go_enter Try.func27, Try.ntmps27
      go_wp2_with (first
        | (go_at_call 46; go_loud (refine (rvGood_any _ _ _ _ _ H.out hl).mono ?_; rw [HO.out]; rintro e w1 ⟨rfl, rfl⟩))
        | (go_at_call 57; go_loud (refine (rvMost_any _ _).mono ?_; rw [HM.out]; rintro e w1 ⟨rfl, rfl⟩)))
      go_ret2
      exact ⟨rfl, Below.refl _ _⟩
  · have HO := Lib.hid ho
    rw [R_Steps_no1 ho]
    clear ho
    go_enter Try.func27, Try.ntmps27
    go_wp2_with (go_at_call 46; go_loud (refine (rvGood_any _ _ _ _ _ H.out hl).mono ?_; rw [HO.out]; rintro e w1 ⟨rfl, rfl⟩))
    go_ret2
    exact ⟨rfl, Below.refl _ _⟩

end Go.Proofs.Yteadgaecjoenlaa
