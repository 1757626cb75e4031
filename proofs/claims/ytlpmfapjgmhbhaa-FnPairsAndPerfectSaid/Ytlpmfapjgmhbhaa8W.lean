/-
  Partners by the rule: the program's and the model's answers, and the law.
-/
import Derived.Test.Ytlpmfapjgmhbhaa8R
namespace Go.Proofs.Ytlpmfapjgmhbhaa
open Go.RowKit
set_option linter.unusedVariables false
set_option linter.unusedSimpArgs false
set_option maxRecDepth 100000

/-- The partners of k, if the rule makes some. -/
def RTha (k : Int) : Option (Int × Int) :=
  if k = 2 then (if prm 5 = true ∧ prm 11 = true ∧ prm 71 = true then some (220, 284) else none) else if k = 3 then (if prm 11 = true ∧ prm 23 = true ∧ prm 287 = true then some (2024, 2296) else none) else if k = 4 then (if prm 23 = true ∧ prm 47 = true ∧ prm 1151 = true then some (17296, 18416) else none) else if k = 5 then (if prm 47 = true ∧ prm 95 = true ∧ prm 4607 = true then some (142880, 147424) else none) else if k = 6 then (if prm 95 = true ∧ prm 191 = true ∧ prm 18431 = true then some (1161280, 1179584) else none) else if k = 7 then (if prm 191 = true ∧ prm 383 = true ∧ prm 73727 = true then some (9363584, 9437056) else none) else none
abbrev resT (o : Option (Int × Int)) : Value := .tuple #[.int .i64 (o.getD (0, 0)).1, .int .i64 (o.getD (0, 0)).2, .bool o.isSome]
theorem RTha_no {k : Int} (h : ¬ (2 ≤ k ∧ k ≤ 7)) : RTha k = none := by
  unfold RTha
  rw [if_neg (by omega), if_neg (by omega), if_neg (by omega), if_neg (by omega), if_neg (by omega), if_neg (by omega)]

theorem RTha_2 : RTha 2 = if prm 5 = true ∧ prm 11 = true ∧ prm 71 = true then some (220, 284) else none := by unfold RTha; simp
theorem impl_ThabitPair_2 (w : World) :
    Calls Try.prog 27 #[.int .i64 2] w fun e w' => e = .returned (resT (RTha 2)) ∧ Below w.heap.size w w' := by
  rw [RTha_2]
  have HU := Lib.hid (fun w' => isPrime_any 5 w' (by unfold Dv; omega))
  have HV := Lib.hid (fun w' => isPrime_any 11 w' (by unfold Dv; omega))
  have HW := Lib.hid (fun w' => isPrime_any 71 w' (by unfold Dv; omega))
  obtain ⟨q1, hq1⟩ : ∃ q, q = prm 5 := ⟨_, rfl⟩
  obtain ⟨q2, hq2⟩ : ∃ q, q = prm 11 := ⟨_, rfl⟩
  obtain ⟨q3, hq3⟩ : ∃ q, q = prm 71 := ⟨_, rfl⟩
  rw [← hq1] at HU
  rw [← hq2] at HV
  rw [← hq3] at HW
  rw [← hq1, ← hq2, ← hq3]
  clear hq1 hq2 hq3
  cases q1
  · rw [if_neg (by simp)]
    go_enter Try.func27, Try.ntmps27
    go_wp2
    go_region
    all_goals
      go_wp2_with (go_at_call 64; (first | (with_reducible refine (HU.out _).mono ?_; rintro e w1 ⟨rfl, hb⟩; have HB := Lib.hid (drew_step hb); clear hb) | (with_reducible refine (HV.out _).mono ?_; rintro e w2 ⟨rfl, hb⟩; have HB2 := Lib.hid (Below.step HB.out HB.out.size hb); clear hb) | (with_reducible refine (HW.out _).mono ?_; rintro e w3 ⟨rfl, hb⟩; have HB3 := Lib.hid (Below.step HB2.out HB2.out.size hb); clear hb)))
      go_ret3
      exact ⟨rfl, HB.out⟩
  · cases q2
    · rw [if_neg (by simp)]
      go_enter Try.func27, Try.ntmps27
      go_wp2
      go_region
      all_goals
        go_wp2_with (go_at_call 64; (first | (with_reducible refine (HU.out _).mono ?_; rintro e w1 ⟨rfl, hb⟩; have HB := Lib.hid (drew_step hb); clear hb) | (with_reducible refine (HV.out _).mono ?_; rintro e w2 ⟨rfl, hb⟩; have HB2 := Lib.hid (Below.step HB.out HB.out.size hb); clear hb) | (with_reducible refine (HW.out _).mono ?_; rintro e w3 ⟨rfl, hb⟩; have HB3 := Lib.hid (Below.step HB2.out HB2.out.size hb); clear hb)))
        go_ret3
        exact ⟨rfl, HB2.out⟩
    · cases q3
      · rw [if_neg (by simp)]
        go_enter Try.func27, Try.ntmps27
        go_wp2
        go_region
        all_goals
          go_wp2_with (go_at_call 64; (first | (with_reducible refine (HU.out _).mono ?_; rintro e w1 ⟨rfl, hb⟩; have HB := Lib.hid (drew_step hb); clear hb) | (with_reducible refine (HV.out _).mono ?_; rintro e w2 ⟨rfl, hb⟩; have HB2 := Lib.hid (Below.step HB.out HB.out.size hb); clear hb) | (with_reducible refine (HW.out _).mono ?_; rintro e w3 ⟨rfl, hb⟩; have HB3 := Lib.hid (Below.step HB2.out HB2.out.size hb); clear hb)))
          go_ret3
          exact ⟨rfl, HB3.out⟩
      · rw [if_pos ⟨rfl, rfl, rfl⟩]
        go_enter Try.func27, Try.ntmps27
        go_wp2
        go_region
        all_goals
          go_wp2_with (go_at_call 64; (first | (with_reducible refine (HU.out _).mono ?_; rintro e w1 ⟨rfl, hb⟩; have HB := Lib.hid (drew_step hb); clear hb) | (with_reducible refine (HV.out _).mono ?_; rintro e w2 ⟨rfl, hb⟩; have HB2 := Lib.hid (Below.step HB.out HB.out.size hb); clear hb) | (with_reducible refine (HW.out _).mono ?_; rintro e w3 ⟨rfl, hb⟩; have HB3 := Lib.hid (Below.step HB2.out HB2.out.size hb); clear hb)))
          go_region
          all_goals
            go_wp2
            go_ret3
            exact ⟨rfl, HB3.out.drew⟩
theorem spec_ThabitPair_2 (w : World) :
    Calls Try.prog 28 #[.int .i64 2] w fun e w' => e = .returned (resT (RTha 2)) ∧ Below w.heap.size w w' := by
  rw [RTha_2]
  have HU := Lib.hid (fun w' => dvPrime_any 5 w' (by unfold Dv; omega) (by omega))
  have HV := Lib.hid (fun w' => dvPrime_any 11 w' (by unfold Dv; omega) (by omega))
  have HW := Lib.hid (fun w' => dvPrime_any 71 w' (by unfold Dv; omega) (by omega))
  obtain ⟨q1, hq1⟩ : ∃ q, q = prm 5 := ⟨_, rfl⟩
  obtain ⟨q2, hq2⟩ : ∃ q, q = prm 11 := ⟨_, rfl⟩
  obtain ⟨q3, hq3⟩ : ∃ q, q = prm 71 := ⟨_, rfl⟩
  rw [← hq1] at HU
  rw [← hq2] at HV
  rw [← hq3] at HW
  rw [← hq1, ← hq2, ← hq3]
  clear hq1 hq2 hq3
  cases q1
  · rw [if_neg (by simp)]
    go_enter Try.func28, Try.ntmps28
    go_wp2_with (go_at_call 63; refine (l1In_yes _ _ _ _ (by omega) (by omega)).mono ?_; rintro e w1 ⟨rfl, rfl⟩)
    go_region
    all_goals
      go_wp2_with (go_at_call 65; (first | (with_reducible refine (HU.out _).mono ?_; rintro e w1 ⟨rfl, hb⟩; have HB := Lib.hid (drew_step hb); clear hb) | (with_reducible refine (HV.out _).mono ?_; rintro e w2 ⟨rfl, hb⟩; have HB2 := Lib.hid (Below.step HB.out HB.out.size hb); clear hb) | (with_reducible refine (HW.out _).mono ?_; rintro e w3 ⟨rfl, hb⟩; have HB3 := Lib.hid (Below.step HB2.out HB2.out.size hb); clear hb)))
      go_ret3
      exact ⟨rfl, HB.out⟩
  · cases q2
    · rw [if_neg (by simp)]
      go_enter Try.func28, Try.ntmps28
      go_wp2_with (go_at_call 63; refine (l1In_yes _ _ _ _ (by omega) (by omega)).mono ?_; rintro e w1 ⟨rfl, rfl⟩)
      go_region
      all_goals
        go_wp2_with (go_at_call 65; (first | (with_reducible refine (HU.out _).mono ?_; rintro e w1 ⟨rfl, hb⟩; have HB := Lib.hid (drew_step hb); clear hb) | (with_reducible refine (HV.out _).mono ?_; rintro e w2 ⟨rfl, hb⟩; have HB2 := Lib.hid (Below.step HB.out HB.out.size hb); clear hb) | (with_reducible refine (HW.out _).mono ?_; rintro e w3 ⟨rfl, hb⟩; have HB3 := Lib.hid (Below.step HB2.out HB2.out.size hb); clear hb)))
        go_ret3
        exact ⟨rfl, HB2.out⟩
    · cases q3
      · rw [if_neg (by simp)]
        go_enter Try.func28, Try.ntmps28
        go_wp2_with (go_at_call 63; refine (l1In_yes _ _ _ _ (by omega) (by omega)).mono ?_; rintro e w1 ⟨rfl, rfl⟩)
        go_region
        all_goals
          go_wp2_with (go_at_call 65; (first | (with_reducible refine (HU.out _).mono ?_; rintro e w1 ⟨rfl, hb⟩; have HB := Lib.hid (drew_step hb); clear hb) | (with_reducible refine (HV.out _).mono ?_; rintro e w2 ⟨rfl, hb⟩; have HB2 := Lib.hid (Below.step HB.out HB.out.size hb); clear hb) | (with_reducible refine (HW.out _).mono ?_; rintro e w3 ⟨rfl, hb⟩; have HB3 := Lib.hid (Below.step HB2.out HB2.out.size hb); clear hb)))
          go_ret3
          exact ⟨rfl, HB3.out⟩
      · rw [if_pos ⟨rfl, rfl, rfl⟩]
        go_enter Try.func28, Try.ntmps28
        go_wp2_with (go_at_call 63; refine (l1In_yes _ _ _ _ (by omega) (by omega)).mono ?_; rintro e w1 ⟨rfl, rfl⟩)
        go_region
        all_goals
          go_wp2_with (go_at_call 65; (first | (with_reducible refine (HU.out _).mono ?_; rintro e w1 ⟨rfl, hb⟩; have HB := Lib.hid (drew_step hb); clear hb) | (with_reducible refine (HV.out _).mono ?_; rintro e w2 ⟨rfl, hb⟩; have HB2 := Lib.hid (Below.step HB.out HB.out.size hb); clear hb) | (with_reducible refine (HW.out _).mono ?_; rintro e w3 ⟨rfl, hb⟩; have HB3 := Lib.hid (Below.step HB2.out HB2.out.size hb); clear hb)))
          go_region
          all_goals
            go_wp2
            go_ret3
            exact ⟨rfl, HB3.out.drew⟩

theorem RTha_3 : RTha 3 = if prm 11 = true ∧ prm 23 = true ∧ prm 287 = true then some (2024, 2296) else none := by unfold RTha; simp
theorem impl_ThabitPair_3 (w : World) :
    Calls Try.prog 27 #[.int .i64 3] w fun e w' => e = .returned (resT (RTha 3)) ∧ Below w.heap.size w w' := by
  rw [RTha_3]
  have HU := Lib.hid (fun w' => isPrime_any 11 w' (by unfold Dv; omega))
  have HV := Lib.hid (fun w' => isPrime_any 23 w' (by unfold Dv; omega))
  have HW := Lib.hid (fun w' => isPrime_any 287 w' (by unfold Dv; omega))
  obtain ⟨q1, hq1⟩ : ∃ q, q = prm 11 := ⟨_, rfl⟩
  obtain ⟨q2, hq2⟩ : ∃ q, q = prm 23 := ⟨_, rfl⟩
  obtain ⟨q3, hq3⟩ : ∃ q, q = prm 287 := ⟨_, rfl⟩
  rw [← hq1] at HU
  rw [← hq2] at HV
  rw [← hq3] at HW
  rw [← hq1, ← hq2, ← hq3]
  clear hq1 hq2 hq3
  cases q1
  · rw [if_neg (by simp)]
    go_enter Try.func27, Try.ntmps27
    go_wp2
    go_region
    all_goals
      go_wp2_with (go_at_call 64; (first | (with_reducible refine (HU.out _).mono ?_; rintro e w1 ⟨rfl, hb⟩; have HB := Lib.hid (drew_step hb); clear hb) | (with_reducible refine (HV.out _).mono ?_; rintro e w2 ⟨rfl, hb⟩; have HB2 := Lib.hid (Below.step HB.out HB.out.size hb); clear hb) | (with_reducible refine (HW.out _).mono ?_; rintro e w3 ⟨rfl, hb⟩; have HB3 := Lib.hid (Below.step HB2.out HB2.out.size hb); clear hb)))
      go_ret3
      exact ⟨rfl, HB.out⟩
  · cases q2
    · rw [if_neg (by simp)]
      go_enter Try.func27, Try.ntmps27
      go_wp2
      go_region
      all_goals
        go_wp2_with (go_at_call 64; (first | (with_reducible refine (HU.out _).mono ?_; rintro e w1 ⟨rfl, hb⟩; have HB := Lib.hid (drew_step hb); clear hb) | (with_reducible refine (HV.out _).mono ?_; rintro e w2 ⟨rfl, hb⟩; have HB2 := Lib.hid (Below.step HB.out HB.out.size hb); clear hb) | (with_reducible refine (HW.out _).mono ?_; rintro e w3 ⟨rfl, hb⟩; have HB3 := Lib.hid (Below.step HB2.out HB2.out.size hb); clear hb)))
        go_ret3
        exact ⟨rfl, HB2.out⟩
    · cases q3
      · rw [if_neg (by simp)]
        go_enter Try.func27, Try.ntmps27
        go_wp2
        go_region
        all_goals
          go_wp2_with (go_at_call 64; (first | (with_reducible refine (HU.out _).mono ?_; rintro e w1 ⟨rfl, hb⟩; have HB := Lib.hid (drew_step hb); clear hb) | (with_reducible refine (HV.out _).mono ?_; rintro e w2 ⟨rfl, hb⟩; have HB2 := Lib.hid (Below.step HB.out HB.out.size hb); clear hb) | (with_reducible refine (HW.out _).mono ?_; rintro e w3 ⟨rfl, hb⟩; have HB3 := Lib.hid (Below.step HB2.out HB2.out.size hb); clear hb)))
          go_ret3
          exact ⟨rfl, HB3.out⟩
      · rw [if_pos ⟨rfl, rfl, rfl⟩]
        go_enter Try.func27, Try.ntmps27
        go_wp2
        go_region
        all_goals
          go_wp2_with (go_at_call 64; (first | (with_reducible refine (HU.out _).mono ?_; rintro e w1 ⟨rfl, hb⟩; have HB := Lib.hid (drew_step hb); clear hb) | (with_reducible refine (HV.out _).mono ?_; rintro e w2 ⟨rfl, hb⟩; have HB2 := Lib.hid (Below.step HB.out HB.out.size hb); clear hb) | (with_reducible refine (HW.out _).mono ?_; rintro e w3 ⟨rfl, hb⟩; have HB3 := Lib.hid (Below.step HB2.out HB2.out.size hb); clear hb)))
          go_region
          all_goals
            go_wp2
            go_ret3
            exact ⟨rfl, HB3.out.drew⟩
theorem spec_ThabitPair_3 (w : World) :
    Calls Try.prog 28 #[.int .i64 3] w fun e w' => e = .returned (resT (RTha 3)) ∧ Below w.heap.size w w' := by
  rw [RTha_3]
  have HU := Lib.hid (fun w' => dvPrime_any 11 w' (by unfold Dv; omega) (by omega))
  have HV := Lib.hid (fun w' => dvPrime_any 23 w' (by unfold Dv; omega) (by omega))
  have HW := Lib.hid (fun w' => dvPrime_any 287 w' (by unfold Dv; omega) (by omega))
  obtain ⟨q1, hq1⟩ : ∃ q, q = prm 11 := ⟨_, rfl⟩
  obtain ⟨q2, hq2⟩ : ∃ q, q = prm 23 := ⟨_, rfl⟩
  obtain ⟨q3, hq3⟩ : ∃ q, q = prm 287 := ⟨_, rfl⟩
  rw [← hq1] at HU
  rw [← hq2] at HV
  rw [← hq3] at HW
  rw [← hq1, ← hq2, ← hq3]
  clear hq1 hq2 hq3
  cases q1
  · rw [if_neg (by simp)]
    go_enter Try.func28, Try.ntmps28
    go_wp2_with (go_at_call 63; refine (l1In_yes _ _ _ _ (by omega) (by omega)).mono ?_; rintro e w1 ⟨rfl, rfl⟩)
    go_region
    all_goals
      go_wp2_with (go_at_call 65; (first | (with_reducible refine (HU.out _).mono ?_; rintro e w1 ⟨rfl, hb⟩; have HB := Lib.hid (drew_step hb); clear hb) | (with_reducible refine (HV.out _).mono ?_; rintro e w2 ⟨rfl, hb⟩; have HB2 := Lib.hid (Below.step HB.out HB.out.size hb); clear hb) | (with_reducible refine (HW.out _).mono ?_; rintro e w3 ⟨rfl, hb⟩; have HB3 := Lib.hid (Below.step HB2.out HB2.out.size hb); clear hb)))
      go_ret3
      exact ⟨rfl, HB.out⟩
  · cases q2
    · rw [if_neg (by simp)]
      go_enter Try.func28, Try.ntmps28
      go_wp2_with (go_at_call 63; refine (l1In_yes _ _ _ _ (by omega) (by omega)).mono ?_; rintro e w1 ⟨rfl, rfl⟩)
      go_region
      all_goals
        go_wp2_with (go_at_call 65; (first | (with_reducible refine (HU.out _).mono ?_; rintro e w1 ⟨rfl, hb⟩; have HB := Lib.hid (drew_step hb); clear hb) | (with_reducible refine (HV.out _).mono ?_; rintro e w2 ⟨rfl, hb⟩; have HB2 := Lib.hid (Below.step HB.out HB.out.size hb); clear hb) | (with_reducible refine (HW.out _).mono ?_; rintro e w3 ⟨rfl, hb⟩; have HB3 := Lib.hid (Below.step HB2.out HB2.out.size hb); clear hb)))
        go_ret3
        exact ⟨rfl, HB2.out⟩
    · cases q3
      · rw [if_neg (by simp)]
        go_enter Try.func28, Try.ntmps28
        go_wp2_with (go_at_call 63; refine (l1In_yes _ _ _ _ (by omega) (by omega)).mono ?_; rintro e w1 ⟨rfl, rfl⟩)
        go_region
        all_goals
          go_wp2_with (go_at_call 65; (first | (with_reducible refine (HU.out _).mono ?_; rintro e w1 ⟨rfl, hb⟩; have HB := Lib.hid (drew_step hb); clear hb) | (with_reducible refine (HV.out _).mono ?_; rintro e w2 ⟨rfl, hb⟩; have HB2 := Lib.hid (Below.step HB.out HB.out.size hb); clear hb) | (with_reducible refine (HW.out _).mono ?_; rintro e w3 ⟨rfl, hb⟩; have HB3 := Lib.hid (Below.step HB2.out HB2.out.size hb); clear hb)))
          go_ret3
          exact ⟨rfl, HB3.out⟩
      · rw [if_pos ⟨rfl, rfl, rfl⟩]
        go_enter Try.func28, Try.ntmps28
        go_wp2_with (go_at_call 63; refine (l1In_yes _ _ _ _ (by omega) (by omega)).mono ?_; rintro e w1 ⟨rfl, rfl⟩)
        go_region
        all_goals
          go_wp2_with (go_at_call 65; (first | (with_reducible refine (HU.out _).mono ?_; rintro e w1 ⟨rfl, hb⟩; have HB := Lib.hid (drew_step hb); clear hb) | (with_reducible refine (HV.out _).mono ?_; rintro e w2 ⟨rfl, hb⟩; have HB2 := Lib.hid (Below.step HB.out HB.out.size hb); clear hb) | (with_reducible refine (HW.out _).mono ?_; rintro e w3 ⟨rfl, hb⟩; have HB3 := Lib.hid (Below.step HB2.out HB2.out.size hb); clear hb)))
          go_region
          all_goals
            go_wp2
            go_ret3
            exact ⟨rfl, HB3.out.drew⟩

theorem RTha_4 : RTha 4 = if prm 23 = true ∧ prm 47 = true ∧ prm 1151 = true then some (17296, 18416) else none := by unfold RTha; simp
theorem impl_ThabitPair_4 (w : World) :
    Calls Try.prog 27 #[.int .i64 4] w fun e w' => e = .returned (resT (RTha 4)) ∧ Below w.heap.size w w' := by
  rw [RTha_4]
  have HU := Lib.hid (fun w' => isPrime_any 23 w' (by unfold Dv; omega))
  have HV := Lib.hid (fun w' => isPrime_any 47 w' (by unfold Dv; omega))
  have HW := Lib.hid (fun w' => isPrime_any 1151 w' (by unfold Dv; omega))
  obtain ⟨q1, hq1⟩ : ∃ q, q = prm 23 := ⟨_, rfl⟩
  obtain ⟨q2, hq2⟩ : ∃ q, q = prm 47 := ⟨_, rfl⟩
  obtain ⟨q3, hq3⟩ : ∃ q, q = prm 1151 := ⟨_, rfl⟩
  rw [← hq1] at HU
  rw [← hq2] at HV
  rw [← hq3] at HW
  rw [← hq1, ← hq2, ← hq3]
  clear hq1 hq2 hq3
  cases q1
  · rw [if_neg (by simp)]
    go_enter Try.func27, Try.ntmps27
    go_wp2
    go_region
    all_goals
      go_wp2_with (go_at_call 64; (first | (with_reducible refine (HU.out _).mono ?_; rintro e w1 ⟨rfl, hb⟩; have HB := Lib.hid (drew_step hb); clear hb) | (with_reducible refine (HV.out _).mono ?_; rintro e w2 ⟨rfl, hb⟩; have HB2 := Lib.hid (Below.step HB.out HB.out.size hb); clear hb) | (with_reducible refine (HW.out _).mono ?_; rintro e w3 ⟨rfl, hb⟩; have HB3 := Lib.hid (Below.step HB2.out HB2.out.size hb); clear hb)))
      go_ret3
      exact ⟨rfl, HB.out⟩
  · cases q2
    · rw [if_neg (by simp)]
      go_enter Try.func27, Try.ntmps27
      go_wp2
      go_region
      all_goals
        go_wp2_with (go_at_call 64; (first | (with_reducible refine (HU.out _).mono ?_; rintro e w1 ⟨rfl, hb⟩; have HB := Lib.hid (drew_step hb); clear hb) | (with_reducible refine (HV.out _).mono ?_; rintro e w2 ⟨rfl, hb⟩; have HB2 := Lib.hid (Below.step HB.out HB.out.size hb); clear hb) | (with_reducible refine (HW.out _).mono ?_; rintro e w3 ⟨rfl, hb⟩; have HB3 := Lib.hid (Below.step HB2.out HB2.out.size hb); clear hb)))
        go_ret3
        exact ⟨rfl, HB2.out⟩
    · cases q3
      · rw [if_neg (by simp)]
        go_enter Try.func27, Try.ntmps27
        go_wp2
        go_region
        all_goals
          go_wp2_with (go_at_call 64; (first | (with_reducible refine (HU.out _).mono ?_; rintro e w1 ⟨rfl, hb⟩; have HB := Lib.hid (drew_step hb); clear hb) | (with_reducible refine (HV.out _).mono ?_; rintro e w2 ⟨rfl, hb⟩; have HB2 := Lib.hid (Below.step HB.out HB.out.size hb); clear hb) | (with_reducible refine (HW.out _).mono ?_; rintro e w3 ⟨rfl, hb⟩; have HB3 := Lib.hid (Below.step HB2.out HB2.out.size hb); clear hb)))
          go_ret3
          exact ⟨rfl, HB3.out⟩
      · rw [if_pos ⟨rfl, rfl, rfl⟩]
        go_enter Try.func27, Try.ntmps27
        go_wp2
        go_region
        all_goals
          go_wp2_with (go_at_call 64; (first | (with_reducible refine (HU.out _).mono ?_; rintro e w1 ⟨rfl, hb⟩; have HB := Lib.hid (drew_step hb); clear hb) | (with_reducible refine (HV.out _).mono ?_; rintro e w2 ⟨rfl, hb⟩; have HB2 := Lib.hid (Below.step HB.out HB.out.size hb); clear hb) | (with_reducible refine (HW.out _).mono ?_; rintro e w3 ⟨rfl, hb⟩; have HB3 := Lib.hid (Below.step HB2.out HB2.out.size hb); clear hb)))
          go_region
          all_goals
            go_wp2
            go_ret3
            exact ⟨rfl, HB3.out.drew⟩
theorem spec_ThabitPair_4 (w : World) :
    Calls Try.prog 28 #[.int .i64 4] w fun e w' => e = .returned (resT (RTha 4)) ∧ Below w.heap.size w w' := by
  rw [RTha_4]
  have HU := Lib.hid (fun w' => dvPrime_any 23 w' (by unfold Dv; omega) (by omega))
  have HV := Lib.hid (fun w' => dvPrime_any 47 w' (by unfold Dv; omega) (by omega))
  have HW := Lib.hid (fun w' => dvPrime_any 1151 w' (by unfold Dv; omega) (by omega))
  obtain ⟨q1, hq1⟩ : ∃ q, q = prm 23 := ⟨_, rfl⟩
  obtain ⟨q2, hq2⟩ : ∃ q, q = prm 47 := ⟨_, rfl⟩
  obtain ⟨q3, hq3⟩ : ∃ q, q = prm 1151 := ⟨_, rfl⟩
  rw [← hq1] at HU
  rw [← hq2] at HV
  rw [← hq3] at HW
  rw [← hq1, ← hq2, ← hq3]
  clear hq1 hq2 hq3
  cases q1
  · rw [if_neg (by simp)]
    go_enter Try.func28, Try.ntmps28
    go_wp2_with (go_at_call 63; refine (l1In_yes _ _ _ _ (by omega) (by omega)).mono ?_; rintro e w1 ⟨rfl, rfl⟩)
    go_region
    all_goals
      go_wp2_with (go_at_call 65; (first | (with_reducible refine (HU.out _).mono ?_; rintro e w1 ⟨rfl, hb⟩; have HB := Lib.hid (drew_step hb); clear hb) | (with_reducible refine (HV.out _).mono ?_; rintro e w2 ⟨rfl, hb⟩; have HB2 := Lib.hid (Below.step HB.out HB.out.size hb); clear hb) | (with_reducible refine (HW.out _).mono ?_; rintro e w3 ⟨rfl, hb⟩; have HB3 := Lib.hid (Below.step HB2.out HB2.out.size hb); clear hb)))
      go_ret3
      exact ⟨rfl, HB.out⟩
  · cases q2
    · rw [if_neg (by simp)]
      go_enter Try.func28, Try.ntmps28
      go_wp2_with (go_at_call 63; refine (l1In_yes _ _ _ _ (by omega) (by omega)).mono ?_; rintro e w1 ⟨rfl, rfl⟩)
      go_region
      all_goals
        go_wp2_with (go_at_call 65; (first | (with_reducible refine (HU.out _).mono ?_; rintro e w1 ⟨rfl, hb⟩; have HB := Lib.hid (drew_step hb); clear hb) | (with_reducible refine (HV.out _).mono ?_; rintro e w2 ⟨rfl, hb⟩; have HB2 := Lib.hid (Below.step HB.out HB.out.size hb); clear hb) | (with_reducible refine (HW.out _).mono ?_; rintro e w3 ⟨rfl, hb⟩; have HB3 := Lib.hid (Below.step HB2.out HB2.out.size hb); clear hb)))
        go_ret3
        exact ⟨rfl, HB2.out⟩
    · cases q3
      · rw [if_neg (by simp)]
        go_enter Try.func28, Try.ntmps28
        go_wp2_with (go_at_call 63; refine (l1In_yes _ _ _ _ (by omega) (by omega)).mono ?_; rintro e w1 ⟨rfl, rfl⟩)
        go_region
        all_goals
          go_wp2_with (go_at_call 65; (first | (with_reducible refine (HU.out _).mono ?_; rintro e w1 ⟨rfl, hb⟩; have HB := Lib.hid (drew_step hb); clear hb) | (with_reducible refine (HV.out _).mono ?_; rintro e w2 ⟨rfl, hb⟩; have HB2 := Lib.hid (Below.step HB.out HB.out.size hb); clear hb) | (with_reducible refine (HW.out _).mono ?_; rintro e w3 ⟨rfl, hb⟩; have HB3 := Lib.hid (Below.step HB2.out HB2.out.size hb); clear hb)))
          go_ret3
          exact ⟨rfl, HB3.out⟩
      · rw [if_pos ⟨rfl, rfl, rfl⟩]
        go_enter Try.func28, Try.ntmps28
        go_wp2_with (go_at_call 63; refine (l1In_yes _ _ _ _ (by omega) (by omega)).mono ?_; rintro e w1 ⟨rfl, rfl⟩)
        go_region
        all_goals
          go_wp2_with (go_at_call 65; (first | (with_reducible refine (HU.out _).mono ?_; rintro e w1 ⟨rfl, hb⟩; have HB := Lib.hid (drew_step hb); clear hb) | (with_reducible refine (HV.out _).mono ?_; rintro e w2 ⟨rfl, hb⟩; have HB2 := Lib.hid (Below.step HB.out HB.out.size hb); clear hb) | (with_reducible refine (HW.out _).mono ?_; rintro e w3 ⟨rfl, hb⟩; have HB3 := Lib.hid (Below.step HB2.out HB2.out.size hb); clear hb)))
          go_region
          all_goals
            go_wp2
            go_ret3
            exact ⟨rfl, HB3.out.drew⟩

theorem RTha_5 : RTha 5 = if prm 47 = true ∧ prm 95 = true ∧ prm 4607 = true then some (142880, 147424) else none := by unfold RTha; simp
theorem impl_ThabitPair_5 (w : World) :
    Calls Try.prog 27 #[.int .i64 5] w fun e w' => e = .returned (resT (RTha 5)) ∧ Below w.heap.size w w' := by
  rw [RTha_5]
  have HU := Lib.hid (fun w' => isPrime_any 47 w' (by unfold Dv; omega))
  have HV := Lib.hid (fun w' => isPrime_any 95 w' (by unfold Dv; omega))
  have HW := Lib.hid (fun w' => isPrime_any 4607 w' (by unfold Dv; omega))
  obtain ⟨q1, hq1⟩ : ∃ q, q = prm 47 := ⟨_, rfl⟩
  obtain ⟨q2, hq2⟩ : ∃ q, q = prm 95 := ⟨_, rfl⟩
  obtain ⟨q3, hq3⟩ : ∃ q, q = prm 4607 := ⟨_, rfl⟩
  rw [← hq1] at HU
  rw [← hq2] at HV
  rw [← hq3] at HW
  rw [← hq1, ← hq2, ← hq3]
  clear hq1 hq2 hq3
  cases q1
  · rw [if_neg (by simp)]
    go_enter Try.func27, Try.ntmps27
    go_wp2
    go_region
    all_goals
      go_wp2_with (go_at_call 64; (first | (with_reducible refine (HU.out _).mono ?_; rintro e w1 ⟨rfl, hb⟩; have HB := Lib.hid (drew_step hb); clear hb) | (with_reducible refine (HV.out _).mono ?_; rintro e w2 ⟨rfl, hb⟩; have HB2 := Lib.hid (Below.step HB.out HB.out.size hb); clear hb) | (with_reducible refine (HW.out _).mono ?_; rintro e w3 ⟨rfl, hb⟩; have HB3 := Lib.hid (Below.step HB2.out HB2.out.size hb); clear hb)))
      go_ret3
      exact ⟨rfl, HB.out⟩
  · cases q2
    · rw [if_neg (by simp)]
      go_enter Try.func27, Try.ntmps27
      go_wp2
      go_region
      all_goals
        go_wp2_with (go_at_call 64; (first | (with_reducible refine (HU.out _).mono ?_; rintro e w1 ⟨rfl, hb⟩; have HB := Lib.hid (drew_step hb); clear hb) | (with_reducible refine (HV.out _).mono ?_; rintro e w2 ⟨rfl, hb⟩; have HB2 := Lib.hid (Below.step HB.out HB.out.size hb); clear hb) | (with_reducible refine (HW.out _).mono ?_; rintro e w3 ⟨rfl, hb⟩; have HB3 := Lib.hid (Below.step HB2.out HB2.out.size hb); clear hb)))
        go_ret3
        exact ⟨rfl, HB2.out⟩
    · cases q3
      · rw [if_neg (by simp)]
        go_enter Try.func27, Try.ntmps27
        go_wp2
        go_region
        all_goals
          go_wp2_with (go_at_call 64; (first | (with_reducible refine (HU.out _).mono ?_; rintro e w1 ⟨rfl, hb⟩; have HB := Lib.hid (drew_step hb); clear hb) | (with_reducible refine (HV.out _).mono ?_; rintro e w2 ⟨rfl, hb⟩; have HB2 := Lib.hid (Below.step HB.out HB.out.size hb); clear hb) | (with_reducible refine (HW.out _).mono ?_; rintro e w3 ⟨rfl, hb⟩; have HB3 := Lib.hid (Below.step HB2.out HB2.out.size hb); clear hb)))
          go_ret3
          exact ⟨rfl, HB3.out⟩
      · rw [if_pos ⟨rfl, rfl, rfl⟩]
        go_enter Try.func27, Try.ntmps27
        go_wp2
        go_region
        all_goals
          go_wp2_with (go_at_call 64; (first | (with_reducible refine (HU.out _).mono ?_; rintro e w1 ⟨rfl, hb⟩; have HB := Lib.hid (drew_step hb); clear hb) | (with_reducible refine (HV.out _).mono ?_; rintro e w2 ⟨rfl, hb⟩; have HB2 := Lib.hid (Below.step HB.out HB.out.size hb); clear hb) | (with_reducible refine (HW.out _).mono ?_; rintro e w3 ⟨rfl, hb⟩; have HB3 := Lib.hid (Below.step HB2.out HB2.out.size hb); clear hb)))
          go_region
          all_goals
            go_wp2
            go_ret3
            exact ⟨rfl, HB3.out.drew⟩
theorem spec_ThabitPair_5 (w : World) :
    Calls Try.prog 28 #[.int .i64 5] w fun e w' => e = .returned (resT (RTha 5)) ∧ Below w.heap.size w w' := by
  rw [RTha_5]
  have HU := Lib.hid (fun w' => dvPrime_any 47 w' (by unfold Dv; omega) (by omega))
  have HV := Lib.hid (fun w' => dvPrime_any 95 w' (by unfold Dv; omega) (by omega))
  have HW := Lib.hid (fun w' => dvPrime_any 4607 w' (by unfold Dv; omega) (by omega))
  obtain ⟨q1, hq1⟩ : ∃ q, q = prm 47 := ⟨_, rfl⟩
  obtain ⟨q2, hq2⟩ : ∃ q, q = prm 95 := ⟨_, rfl⟩
  obtain ⟨q3, hq3⟩ : ∃ q, q = prm 4607 := ⟨_, rfl⟩
  rw [← hq1] at HU
  rw [← hq2] at HV
  rw [← hq3] at HW
  rw [← hq1, ← hq2, ← hq3]
  clear hq1 hq2 hq3
  cases q1
  · rw [if_neg (by simp)]
    go_enter Try.func28, Try.ntmps28
    go_wp2_with (go_at_call 63; refine (l1In_yes _ _ _ _ (by omega) (by omega)).mono ?_; rintro e w1 ⟨rfl, rfl⟩)
    go_region
    all_goals
      go_wp2_with (go_at_call 65; (first | (with_reducible refine (HU.out _).mono ?_; rintro e w1 ⟨rfl, hb⟩; have HB := Lib.hid (drew_step hb); clear hb) | (with_reducible refine (HV.out _).mono ?_; rintro e w2 ⟨rfl, hb⟩; have HB2 := Lib.hid (Below.step HB.out HB.out.size hb); clear hb) | (with_reducible refine (HW.out _).mono ?_; rintro e w3 ⟨rfl, hb⟩; have HB3 := Lib.hid (Below.step HB2.out HB2.out.size hb); clear hb)))
      go_ret3
      exact ⟨rfl, HB.out⟩
  · cases q2
    · rw [if_neg (by simp)]
      go_enter Try.func28, Try.ntmps28
      go_wp2_with (go_at_call 63; refine (l1In_yes _ _ _ _ (by omega) (by omega)).mono ?_; rintro e w1 ⟨rfl, rfl⟩)
      go_region
      all_goals
        go_wp2_with (go_at_call 65; (first | (with_reducible refine (HU.out _).mono ?_; rintro e w1 ⟨rfl, hb⟩; have HB := Lib.hid (drew_step hb); clear hb) | (with_reducible refine (HV.out _).mono ?_; rintro e w2 ⟨rfl, hb⟩; have HB2 := Lib.hid (Below.step HB.out HB.out.size hb); clear hb) | (with_reducible refine (HW.out _).mono ?_; rintro e w3 ⟨rfl, hb⟩; have HB3 := Lib.hid (Below.step HB2.out HB2.out.size hb); clear hb)))
        go_ret3
        exact ⟨rfl, HB2.out⟩
    · cases q3
      · rw [if_neg (by simp)]
        go_enter Try.func28, Try.ntmps28
        go_wp2_with (go_at_call 63; refine (l1In_yes _ _ _ _ (by omega) (by omega)).mono ?_; rintro e w1 ⟨rfl, rfl⟩)
        go_region
        all_goals
          go_wp2_with (go_at_call 65; (first | (with_reducible refine (HU.out _).mono ?_; rintro e w1 ⟨rfl, hb⟩; have HB := Lib.hid (drew_step hb); clear hb) | (with_reducible refine (HV.out _).mono ?_; rintro e w2 ⟨rfl, hb⟩; have HB2 := Lib.hid (Below.step HB.out HB.out.size hb); clear hb) | (with_reducible refine (HW.out _).mono ?_; rintro e w3 ⟨rfl, hb⟩; have HB3 := Lib.hid (Below.step HB2.out HB2.out.size hb); clear hb)))
          go_ret3
          exact ⟨rfl, HB3.out⟩
      · rw [if_pos ⟨rfl, rfl, rfl⟩]
        go_enter Try.func28, Try.ntmps28
        go_wp2_with (go_at_call 63; refine (l1In_yes _ _ _ _ (by omega) (by omega)).mono ?_; rintro e w1 ⟨rfl, rfl⟩)
        go_region
        all_goals
          go_wp2_with (go_at_call 65; (first | (with_reducible refine (HU.out _).mono ?_; rintro e w1 ⟨rfl, hb⟩; have HB := Lib.hid (drew_step hb); clear hb) | (with_reducible refine (HV.out _).mono ?_; rintro e w2 ⟨rfl, hb⟩; have HB2 := Lib.hid (Below.step HB.out HB.out.size hb); clear hb) | (with_reducible refine (HW.out _).mono ?_; rintro e w3 ⟨rfl, hb⟩; have HB3 := Lib.hid (Below.step HB2.out HB2.out.size hb); clear hb)))
          go_region
          all_goals
            go_wp2
            go_ret3
            exact ⟨rfl, HB3.out.drew⟩

theorem RTha_6 : RTha 6 = if prm 95 = true ∧ prm 191 = true ∧ prm 18431 = true then some (1161280, 1179584) else none := by unfold RTha; simp
theorem impl_ThabitPair_6 (w : World) :
    Calls Try.prog 27 #[.int .i64 6] w fun e w' => e = .returned (resT (RTha 6)) ∧ Below w.heap.size w w' := by
  rw [RTha_6]
  have HU := Lib.hid (fun w' => isPrime_any 95 w' (by unfold Dv; omega))
  have HV := Lib.hid (fun w' => isPrime_any 191 w' (by unfold Dv; omega))
  have HW := Lib.hid (fun w' => isPrime_any 18431 w' (by unfold Dv; omega))
  obtain ⟨q1, hq1⟩ : ∃ q, q = prm 95 := ⟨_, rfl⟩
  obtain ⟨q2, hq2⟩ : ∃ q, q = prm 191 := ⟨_, rfl⟩
  obtain ⟨q3, hq3⟩ : ∃ q, q = prm 18431 := ⟨_, rfl⟩
  rw [← hq1] at HU
  rw [← hq2] at HV
  rw [← hq3] at HW
  rw [← hq1, ← hq2, ← hq3]
  clear hq1 hq2 hq3
  cases q1
  · rw [if_neg (by simp)]
    go_enter Try.func27, Try.ntmps27
    go_wp2
    go_region
    all_goals
      go_wp2_with (go_at_call 64; (first | (with_reducible refine (HU.out _).mono ?_; rintro e w1 ⟨rfl, hb⟩; have HB := Lib.hid (drew_step hb); clear hb) | (with_reducible refine (HV.out _).mono ?_; rintro e w2 ⟨rfl, hb⟩; have HB2 := Lib.hid (Below.step HB.out HB.out.size hb); clear hb) | (with_reducible refine (HW.out _).mono ?_; rintro e w3 ⟨rfl, hb⟩; have HB3 := Lib.hid (Below.step HB2.out HB2.out.size hb); clear hb)))
      go_ret3
      exact ⟨rfl, HB.out⟩
  · cases q2
    · rw [if_neg (by simp)]
      go_enter Try.func27, Try.ntmps27
      go_wp2
      go_region
      all_goals
        go_wp2_with (go_at_call 64; (first | (with_reducible refine (HU.out _).mono ?_; rintro e w1 ⟨rfl, hb⟩; have HB := Lib.hid (drew_step hb); clear hb) | (with_reducible refine (HV.out _).mono ?_; rintro e w2 ⟨rfl, hb⟩; have HB2 := Lib.hid (Below.step HB.out HB.out.size hb); clear hb) | (with_reducible refine (HW.out _).mono ?_; rintro e w3 ⟨rfl, hb⟩; have HB3 := Lib.hid (Below.step HB2.out HB2.out.size hb); clear hb)))
        go_ret3
        exact ⟨rfl, HB2.out⟩
    · cases q3
      · rw [if_neg (by simp)]
        go_enter Try.func27, Try.ntmps27
        go_wp2
        go_region
        all_goals
          go_wp2_with (go_at_call 64; (first | (with_reducible refine (HU.out _).mono ?_; rintro e w1 ⟨rfl, hb⟩; have HB := Lib.hid (drew_step hb); clear hb) | (with_reducible refine (HV.out _).mono ?_; rintro e w2 ⟨rfl, hb⟩; have HB2 := Lib.hid (Below.step HB.out HB.out.size hb); clear hb) | (with_reducible refine (HW.out _).mono ?_; rintro e w3 ⟨rfl, hb⟩; have HB3 := Lib.hid (Below.step HB2.out HB2.out.size hb); clear hb)))
          go_ret3
          exact ⟨rfl, HB3.out⟩
      · rw [if_pos ⟨rfl, rfl, rfl⟩]
        go_enter Try.func27, Try.ntmps27
        go_wp2
        go_region
        all_goals
          go_wp2_with (go_at_call 64; (first | (with_reducible refine (HU.out _).mono ?_; rintro e w1 ⟨rfl, hb⟩; have HB := Lib.hid (drew_step hb); clear hb) | (with_reducible refine (HV.out _).mono ?_; rintro e w2 ⟨rfl, hb⟩; have HB2 := Lib.hid (Below.step HB.out HB.out.size hb); clear hb) | (with_reducible refine (HW.out _).mono ?_; rintro e w3 ⟨rfl, hb⟩; have HB3 := Lib.hid (Below.step HB2.out HB2.out.size hb); clear hb)))
          go_region
          all_goals
            go_wp2
            go_ret3
            exact ⟨rfl, HB3.out.drew⟩
theorem spec_ThabitPair_6 (w : World) :
    Calls Try.prog 28 #[.int .i64 6] w fun e w' => e = .returned (resT (RTha 6)) ∧ Below w.heap.size w w' := by
  rw [RTha_6]
  have HU := Lib.hid (fun w' => dvPrime_any 95 w' (by unfold Dv; omega) (by omega))
  have HV := Lib.hid (fun w' => dvPrime_any 191 w' (by unfold Dv; omega) (by omega))
  have HW := Lib.hid (fun w' => dvPrime_any 18431 w' (by unfold Dv; omega) (by omega))
  obtain ⟨q1, hq1⟩ : ∃ q, q = prm 95 := ⟨_, rfl⟩
  obtain ⟨q2, hq2⟩ : ∃ q, q = prm 191 := ⟨_, rfl⟩
  obtain ⟨q3, hq3⟩ : ∃ q, q = prm 18431 := ⟨_, rfl⟩
  rw [← hq1] at HU
  rw [← hq2] at HV
  rw [← hq3] at HW
  rw [← hq1, ← hq2, ← hq3]
  clear hq1 hq2 hq3
  cases q1
  · rw [if_neg (by simp)]
    go_enter Try.func28, Try.ntmps28
    go_wp2_with (go_at_call 63; refine (l1In_yes _ _ _ _ (by omega) (by omega)).mono ?_; rintro e w1 ⟨rfl, rfl⟩)
    go_region
    all_goals
      go_wp2_with (go_at_call 65; (first | (with_reducible refine (HU.out _).mono ?_; rintro e w1 ⟨rfl, hb⟩; have HB := Lib.hid (drew_step hb); clear hb) | (with_reducible refine (HV.out _).mono ?_; rintro e w2 ⟨rfl, hb⟩; have HB2 := Lib.hid (Below.step HB.out HB.out.size hb); clear hb) | (with_reducible refine (HW.out _).mono ?_; rintro e w3 ⟨rfl, hb⟩; have HB3 := Lib.hid (Below.step HB2.out HB2.out.size hb); clear hb)))
      go_ret3
      exact ⟨rfl, HB.out⟩
  · cases q2
    · rw [if_neg (by simp)]
      go_enter Try.func28, Try.ntmps28
      go_wp2_with (go_at_call 63; refine (l1In_yes _ _ _ _ (by omega) (by omega)).mono ?_; rintro e w1 ⟨rfl, rfl⟩)
      go_region
      all_goals
        go_wp2_with (go_at_call 65; (first | (with_reducible refine (HU.out _).mono ?_; rintro e w1 ⟨rfl, hb⟩; have HB := Lib.hid (drew_step hb); clear hb) | (with_reducible refine (HV.out _).mono ?_; rintro e w2 ⟨rfl, hb⟩; have HB2 := Lib.hid (Below.step HB.out HB.out.size hb); clear hb) | (with_reducible refine (HW.out _).mono ?_; rintro e w3 ⟨rfl, hb⟩; have HB3 := Lib.hid (Below.step HB2.out HB2.out.size hb); clear hb)))
        go_ret3
        exact ⟨rfl, HB2.out⟩
    · cases q3
      · rw [if_neg (by simp)]
        go_enter Try.func28, Try.ntmps28
        go_wp2_with (go_at_call 63; refine (l1In_yes _ _ _ _ (by omega) (by omega)).mono ?_; rintro e w1 ⟨rfl, rfl⟩)
        go_region
        all_goals
          go_wp2_with (go_at_call 65; (first | (with_reducible refine (HU.out _).mono ?_; rintro e w1 ⟨rfl, hb⟩; have HB := Lib.hid (drew_step hb); clear hb) | (with_reducible refine (HV.out _).mono ?_; rintro e w2 ⟨rfl, hb⟩; have HB2 := Lib.hid (Below.step HB.out HB.out.size hb); clear hb) | (with_reducible refine (HW.out _).mono ?_; rintro e w3 ⟨rfl, hb⟩; have HB3 := Lib.hid (Below.step HB2.out HB2.out.size hb); clear hb)))
          go_ret3
          exact ⟨rfl, HB3.out⟩
      · rw [if_pos ⟨rfl, rfl, rfl⟩]
        go_enter Try.func28, Try.ntmps28
        go_wp2_with (go_at_call 63; refine (l1In_yes _ _ _ _ (by omega) (by omega)).mono ?_; rintro e w1 ⟨rfl, rfl⟩)
        go_region
        all_goals
          go_wp2_with (go_at_call 65; (first | (with_reducible refine (HU.out _).mono ?_; rintro e w1 ⟨rfl, hb⟩; have HB := Lib.hid (drew_step hb); clear hb) | (with_reducible refine (HV.out _).mono ?_; rintro e w2 ⟨rfl, hb⟩; have HB2 := Lib.hid (Below.step HB.out HB.out.size hb); clear hb) | (with_reducible refine (HW.out _).mono ?_; rintro e w3 ⟨rfl, hb⟩; have HB3 := Lib.hid (Below.step HB2.out HB2.out.size hb); clear hb)))
          go_region
          all_goals
            go_wp2
            go_ret3
            exact ⟨rfl, HB3.out.drew⟩

theorem RTha_7 : RTha 7 = if prm 191 = true ∧ prm 383 = true ∧ prm 73727 = true then some (9363584, 9437056) else none := by unfold RTha; simp
theorem impl_ThabitPair_7 (w : World) :
    Calls Try.prog 27 #[.int .i64 7] w fun e w' => e = .returned (resT (RTha 7)) ∧ Below w.heap.size w w' := by
  rw [RTha_7]
  have HU := Lib.hid (fun w' => isPrime_any 191 w' (by unfold Dv; omega))
  have HV := Lib.hid (fun w' => isPrime_any 383 w' (by unfold Dv; omega))
  have HW := Lib.hid (fun w' => isPrime_any 73727 w' (by unfold Dv; omega))
  obtain ⟨q1, hq1⟩ : ∃ q, q = prm 191 := ⟨_, rfl⟩
  obtain ⟨q2, hq2⟩ : ∃ q, q = prm 383 := ⟨_, rfl⟩
  obtain ⟨q3, hq3⟩ : ∃ q, q = prm 73727 := ⟨_, rfl⟩
  rw [← hq1] at HU
  rw [← hq2] at HV
  rw [← hq3] at HW
  rw [← hq1, ← hq2, ← hq3]
  clear hq1 hq2 hq3
  cases q1
  · rw [if_neg (by simp)]
    go_enter Try.func27, Try.ntmps27
    go_wp2
    go_region
    all_goals
      go_wp2_with (go_at_call 64; (first | (with_reducible refine (HU.out _).mono ?_; rintro e w1 ⟨rfl, hb⟩; have HB := Lib.hid (drew_step hb); clear hb) | (with_reducible refine (HV.out _).mono ?_; rintro e w2 ⟨rfl, hb⟩; have HB2 := Lib.hid (Below.step HB.out HB.out.size hb); clear hb) | (with_reducible refine (HW.out _).mono ?_; rintro e w3 ⟨rfl, hb⟩; have HB3 := Lib.hid (Below.step HB2.out HB2.out.size hb); clear hb)))
      go_ret3
      exact ⟨rfl, HB.out⟩
  · cases q2
    · rw [if_neg (by simp)]
      go_enter Try.func27, Try.ntmps27
      go_wp2
      go_region
      all_goals
        go_wp2_with (go_at_call 64; (first | (with_reducible refine (HU.out _).mono ?_; rintro e w1 ⟨rfl, hb⟩; have HB := Lib.hid (drew_step hb); clear hb) | (with_reducible refine (HV.out _).mono ?_; rintro e w2 ⟨rfl, hb⟩; have HB2 := Lib.hid (Below.step HB.out HB.out.size hb); clear hb) | (with_reducible refine (HW.out _).mono ?_; rintro e w3 ⟨rfl, hb⟩; have HB3 := Lib.hid (Below.step HB2.out HB2.out.size hb); clear hb)))
        go_ret3
        exact ⟨rfl, HB2.out⟩
    · cases q3
      · rw [if_neg (by simp)]
        go_enter Try.func27, Try.ntmps27
        go_wp2
        go_region
        all_goals
          go_wp2_with (go_at_call 64; (first | (with_reducible refine (HU.out _).mono ?_; rintro e w1 ⟨rfl, hb⟩; have HB := Lib.hid (drew_step hb); clear hb) | (with_reducible refine (HV.out _).mono ?_; rintro e w2 ⟨rfl, hb⟩; have HB2 := Lib.hid (Below.step HB.out HB.out.size hb); clear hb) | (with_reducible refine (HW.out _).mono ?_; rintro e w3 ⟨rfl, hb⟩; have HB3 := Lib.hid (Below.step HB2.out HB2.out.size hb); clear hb)))
          go_ret3
          exact ⟨rfl, HB3.out⟩
      · rw [if_pos ⟨rfl, rfl, rfl⟩]
        go_enter Try.func27, Try.ntmps27
        go_wp2
        go_region
        all_goals
          go_wp2_with (go_at_call 64; (first | (with_reducible refine (HU.out _).mono ?_; rintro e w1 ⟨rfl, hb⟩; have HB := Lib.hid (drew_step hb); clear hb) | (with_reducible refine (HV.out _).mono ?_; rintro e w2 ⟨rfl, hb⟩; have HB2 := Lib.hid (Below.step HB.out HB.out.size hb); clear hb) | (with_reducible refine (HW.out _).mono ?_; rintro e w3 ⟨rfl, hb⟩; have HB3 := Lib.hid (Below.step HB2.out HB2.out.size hb); clear hb)))
          go_region
          all_goals
            go_wp2
            go_ret3
            exact ⟨rfl, HB3.out.drew⟩
theorem spec_ThabitPair_7 (w : World) :
    Calls Try.prog 28 #[.int .i64 7] w fun e w' => e = .returned (resT (RTha 7)) ∧ Below w.heap.size w w' := by
  rw [RTha_7]
  have HU := Lib.hid (fun w' => dvPrime_any 191 w' (by unfold Dv; omega) (by omega))
  have HV := Lib.hid (fun w' => dvPrime_any 383 w' (by unfold Dv; omega) (by omega))
  have HW := Lib.hid (fun w' => dvPrime_any 73727 w' (by unfold Dv; omega) (by omega))
  obtain ⟨q1, hq1⟩ : ∃ q, q = prm 191 := ⟨_, rfl⟩
  obtain ⟨q2, hq2⟩ : ∃ q, q = prm 383 := ⟨_, rfl⟩
  obtain ⟨q3, hq3⟩ : ∃ q, q = prm 73727 := ⟨_, rfl⟩
  rw [← hq1] at HU
  rw [← hq2] at HV
  rw [← hq3] at HW
  rw [← hq1, ← hq2, ← hq3]
  clear hq1 hq2 hq3
  cases q1
  · rw [if_neg (by simp)]
    go_enter Try.func28, Try.ntmps28
    go_wp2_with (go_at_call 63; refine (l1In_yes _ _ _ _ (by omega) (by omega)).mono ?_; rintro e w1 ⟨rfl, rfl⟩)
    go_region
    all_goals
      go_wp2_with (go_at_call 65; (first | (with_reducible refine (HU.out _).mono ?_; rintro e w1 ⟨rfl, hb⟩; have HB := Lib.hid (drew_step hb); clear hb) | (with_reducible refine (HV.out _).mono ?_; rintro e w2 ⟨rfl, hb⟩; have HB2 := Lib.hid (Below.step HB.out HB.out.size hb); clear hb) | (with_reducible refine (HW.out _).mono ?_; rintro e w3 ⟨rfl, hb⟩; have HB3 := Lib.hid (Below.step HB2.out HB2.out.size hb); clear hb)))
      go_ret3
      exact ⟨rfl, HB.out⟩
  · cases q2
    · rw [if_neg (by simp)]
      go_enter Try.func28, Try.ntmps28
      go_wp2_with (go_at_call 63; refine (l1In_yes _ _ _ _ (by omega) (by omega)).mono ?_; rintro e w1 ⟨rfl, rfl⟩)
      go_region
      all_goals
        go_wp2_with (go_at_call 65; (first | (with_reducible refine (HU.out _).mono ?_; rintro e w1 ⟨rfl, hb⟩; have HB := Lib.hid (drew_step hb); clear hb) | (with_reducible refine (HV.out _).mono ?_; rintro e w2 ⟨rfl, hb⟩; have HB2 := Lib.hid (Below.step HB.out HB.out.size hb); clear hb) | (with_reducible refine (HW.out _).mono ?_; rintro e w3 ⟨rfl, hb⟩; have HB3 := Lib.hid (Below.step HB2.out HB2.out.size hb); clear hb)))
        go_ret3
        exact ⟨rfl, HB2.out⟩
    · cases q3
      · rw [if_neg (by simp)]
        go_enter Try.func28, Try.ntmps28
        go_wp2_with (go_at_call 63; refine (l1In_yes _ _ _ _ (by omega) (by omega)).mono ?_; rintro e w1 ⟨rfl, rfl⟩)
        go_region
        all_goals
          go_wp2_with (go_at_call 65; (first | (with_reducible refine (HU.out _).mono ?_; rintro e w1 ⟨rfl, hb⟩; have HB := Lib.hid (drew_step hb); clear hb) | (with_reducible refine (HV.out _).mono ?_; rintro e w2 ⟨rfl, hb⟩; have HB2 := Lib.hid (Below.step HB.out HB.out.size hb); clear hb) | (with_reducible refine (HW.out _).mono ?_; rintro e w3 ⟨rfl, hb⟩; have HB3 := Lib.hid (Below.step HB2.out HB2.out.size hb); clear hb)))
          go_ret3
          exact ⟨rfl, HB3.out⟩
      · rw [if_pos ⟨rfl, rfl, rfl⟩]
        go_enter Try.func28, Try.ntmps28
        go_wp2_with (go_at_call 63; refine (l1In_yes _ _ _ _ (by omega) (by omega)).mono ?_; rintro e w1 ⟨rfl, rfl⟩)
        go_region
        all_goals
          go_wp2_with (go_at_call 65; (first | (with_reducible refine (HU.out _).mono ?_; rintro e w1 ⟨rfl, hb⟩; have HB := Lib.hid (drew_step hb); clear hb) | (with_reducible refine (HV.out _).mono ?_; rintro e w2 ⟨rfl, hb⟩; have HB2 := Lib.hid (Below.step HB.out HB.out.size hb); clear hb) | (with_reducible refine (HW.out _).mono ?_; rintro e w3 ⟨rfl, hb⟩; have HB3 := Lib.hid (Below.step HB2.out HB2.out.size hb); clear hb)))
          go_region
          all_goals
            go_wp2
            go_ret3
            exact ⟨rfl, HB3.out.drew⟩

theorem impl_ThabitPair (p : Int) (w : World) :
    Calls Try.prog 27 #[.int .i64 p] w fun e w' => e = .returned (resT (RTha p)) ∧ Below w.heap.size w w' := by
  by_cases h : 2 ≤ p ∧ p ≤ 7
  · obtain rfl | rfl | rfl | rfl | rfl | rfl : p = 2 ∨ p = 3 ∨ p = 4 ∨ p = 5 ∨ p = 6 ∨ p = 7 := by omega
    · exact impl_ThabitPair_2 w
    · exact impl_ThabitPair_3 w
    · exact impl_ThabitPair_4 w
    · exact impl_ThabitPair_5 w
    · exact impl_ThabitPair_6 w
    · exact impl_ThabitPair_7 w
  · have HO := Lib.hid (RTha_no h)
    rw [HO.out]
    by_cases h1 : p < 2
    all_goals
      have h2 : ¬ p < 2 → 7 < p := fun c => by omega
      first | replace h2 := h2 h1 | clear h2
      clear h
      go_enter Try.func27, Try.ntmps27
      go_wp2
      go_ret3
      exact ⟨rfl, Below.refl _ _⟩

theorem spec_ThabitPair (p : Int) (w : World) :
    Calls Try.prog 28 #[.int .i64 p] w fun e w' => e = .returned (resT (RTha p)) ∧ Below w.heap.size w w' := by
  by_cases h : 2 ≤ p ∧ p ≤ 7
  · obtain rfl | rfl | rfl | rfl | rfl | rfl : p = 2 ∨ p = 3 ∨ p = 4 ∨ p = 5 ∨ p = 6 ∨ p = 7 := by omega
    · exact spec_ThabitPair_2 w
    · exact spec_ThabitPair_3 w
    · exact spec_ThabitPair_4 w
    · exact spec_ThabitPair_5 w
    · exact spec_ThabitPair_6 w
    · exact spec_ThabitPair_7 w
  · have HO := Lib.hid (RTha_no h)
    rw [HO.out]
    have h2 : p < 2 ∨ 7 < p := by omega
    clear h
    go_enter Try.func28, Try.ntmps28
    go_wp2_with (go_at_call 63; refine (l1In_no _ _ _ _ h2).mono ?_; rintro e w1 ⟨rfl, rfl⟩)
    go_ret3
    exact ⟨rfl, Below.refl _ _⟩

end Go.Proofs.Ytlpmfapjgmhbhaa
