/-
  Perfect numbers and partners by the rules: the program's and the model's answers, and the laws.
-/
import Derived.Test.Ytlpmfapjgmhbhaa8Q
namespace Go.Proofs.Ytlpmfapjgmhbhaa
open Go.RowKit
set_option linter.unusedVariables false
set_option linter.unusedSimpArgs false
set_option maxRecDepth 100000

/-- The perfect number of p, if the rule makes one. -/
def RPerf (p : Int) : Option Int := if 2 ≤ p ∧ p ≤ 15 then (if prm (2 ^ p.toNat - 1) = true then some (2 ^ (p.toNat - 1) * (2 ^ p.toNat - 1)) else none) else none
theorem RPerf_no {p : Int} (h : ¬ (2 ≤ p ∧ p ≤ 15)) : RPerf p = none := if_neg h
theorem drew_step {w w' : World} (h : Below w.drew.heap.size w.drew w') : Below w.heap.size w w' := Below.step (Below.refl _ _).drew (Nat.le_refl _) h

theorem RPerf_2 : RPerf 2 = if prm 3 = true then some 6 else none := by rw [RPerf, if_pos (by decide)]; rfl
theorem impl_EvenPerfect_2 (w : World) :
    Calls Try.prog 24 #[.int .i64 2] w fun e w' => e = .returned (optRes (RPerf 2)) ∧ Below w.heap.size w w' := by
  rw [RPerf_2]
  have HP := Lib.hid (fun w' => isPrime_any 3 w' (by unfold Dv; omega))
  obtain ⟨q, hq⟩ : ∃ q, q = prm 3 := ⟨_, rfl⟩
  rw [← hq] at HP ⊢
  clear hq
  cases q
  all_goals
    go_enter Try.func24, Try.ntmps24
    go_wp2
    go_region
    all_goals
      go_wp2_with (go_at_call 64; refine (HP.out _).mono ?_; rintro e w1 ⟨rfl, hb⟩; have HB := Lib.hid (drew_step hb); clear hb)
      go_ret2
      exact ⟨rfl, HB.out⟩
theorem spec_EvenPerfect_2 (w : World) :
    Calls Try.prog 25 #[.int .i64 2] w fun e w' => e = .returned (optRes (RPerf 2)) ∧ Below w.heap.size w w' := by
  rw [RPerf_2]
  have HP := Lib.hid (fun w' => dvPrime_any 3 w' (by unfold Dv; omega) (by omega))
  obtain ⟨q, hq⟩ : ∃ q, q = prm 3 := ⟨_, rfl⟩
  rw [← hq] at HP ⊢
  clear hq
  cases q
  · go_enter Try.func25, Try.ntmps25
    go_wp2_with (first | (go_at_call 63; refine (l1In_yes _ _ _ _ (by omega) (by omega)).mono ?_; rintro e w1 ⟨rfl, rfl⟩) | (go_at_call 65; refine (HP.out _).mono ?_; rintro e w1 ⟨rfl, hb⟩; have HB := Lib.hid hb; clear hb))
    go_ret2
    exact ⟨rfl, HB.out⟩
  · go_enter Try.func25, Try.ntmps25
    go_wp2_with (first | (go_at_call 63; refine (l1In_yes _ _ _ _ (by omega) (by omega)).mono ?_; rintro e w1 ⟨rfl, rfl⟩) | (go_at_call 65; refine (HP.out _).mono ?_; rintro e w1 ⟨rfl, hb⟩; have HB := Lib.hid hb; clear hb))
    go_region
    all_goals
      go_wp2
      go_ret2
      exact ⟨rfl, HB.out.drew⟩

theorem RPerf_3 : RPerf 3 = if prm 7 = true then some 28 else none := by rw [RPerf, if_pos (by decide)]; rfl
theorem impl_EvenPerfect_3 (w : World) :
    Calls Try.prog 24 #[.int .i64 3] w fun e w' => e = .returned (optRes (RPerf 3)) ∧ Below w.heap.size w w' := by
  rw [RPerf_3]
  have HP := Lib.hid (fun w' => isPrime_any 7 w' (by unfold Dv; omega))
  obtain ⟨q, hq⟩ : ∃ q, q = prm 7 := ⟨_, rfl⟩
  rw [← hq] at HP ⊢
  clear hq
  cases q
  all_goals
    go_enter Try.func24, Try.ntmps24
    go_wp2
    go_region
    all_goals
      go_wp2_with (go_at_call 64; refine (HP.out _).mono ?_; rintro e w1 ⟨rfl, hb⟩; have HB := Lib.hid (drew_step hb); clear hb)
      go_ret2
      exact ⟨rfl, HB.out⟩
theorem spec_EvenPerfect_3 (w : World) :
    Calls Try.prog 25 #[.int .i64 3] w fun e w' => e = .returned (optRes (RPerf 3)) ∧ Below w.heap.size w w' := by
  rw [RPerf_3]
  have HP := Lib.hid (fun w' => dvPrime_any 7 w' (by unfold Dv; omega) (by omega))
  obtain ⟨q, hq⟩ : ∃ q, q = prm 7 := ⟨_, rfl⟩
  rw [← hq] at HP ⊢
  clear hq
  cases q
  · go_enter Try.func25, Try.ntmps25
    go_wp2_with (first | (go_at_call 63; refine (l1In_yes _ _ _ _ (by omega) (by omega)).mono ?_; rintro e w1 ⟨rfl, rfl⟩) | (go_at_call 65; refine (HP.out _).mono ?_; rintro e w1 ⟨rfl, hb⟩; have HB := Lib.hid hb; clear hb))
    go_ret2
    exact ⟨rfl, HB.out⟩
  · go_enter Try.func25, Try.ntmps25
    go_wp2_with (first | (go_at_call 63; refine (l1In_yes _ _ _ _ (by omega) (by omega)).mono ?_; rintro e w1 ⟨rfl, rfl⟩) | (go_at_call 65; refine (HP.out _).mono ?_; rintro e w1 ⟨rfl, hb⟩; have HB := Lib.hid hb; clear hb))
    go_region
    all_goals
      go_wp2
      go_ret2
      exact ⟨rfl, HB.out.drew⟩

theorem RPerf_4 : RPerf 4 = if prm 15 = true then some 120 else none := by rw [RPerf, if_pos (by decide)]; rfl
theorem impl_EvenPerfect_4 (w : World) :
    Calls Try.prog 24 #[.int .i64 4] w fun e w' => e = .returned (optRes (RPerf 4)) ∧ Below w.heap.size w w' := by
  rw [RPerf_4]
  have HP := Lib.hid (fun w' => isPrime_any 15 w' (by unfold Dv; omega))
  obtain ⟨q, hq⟩ : ∃ q, q = prm 15 := ⟨_, rfl⟩
  rw [← hq] at HP ⊢
  clear hq
  cases q
  all_goals
    go_enter Try.func24, Try.ntmps24
    go_wp2
    go_region
    all_goals
      go_wp2_with (go_at_call 64; refine (HP.out _).mono ?_; rintro e w1 ⟨rfl, hb⟩; have HB := Lib.hid (drew_step hb); clear hb)
      go_ret2
      exact ⟨rfl, HB.out⟩
theorem spec_EvenPerfect_4 (w : World) :
    Calls Try.prog 25 #[.int .i64 4] w fun e w' => e = .returned (optRes (RPerf 4)) ∧ Below w.heap.size w w' := by
  rw [RPerf_4]
  have HP := Lib.hid (fun w' => dvPrime_any 15 w' (by unfold Dv; omega) (by omega))
  obtain ⟨q, hq⟩ : ∃ q, q = prm 15 := ⟨_, rfl⟩
  rw [← hq] at HP ⊢
  clear hq
  cases q
  · go_enter Try.func25, Try.ntmps25
    go_wp2_with (first | (go_at_call 63; refine (l1In_yes _ _ _ _ (by omega) (by omega)).mono ?_; rintro e w1 ⟨rfl, rfl⟩) | (go_at_call 65; refine (HP.out _).mono ?_; rintro e w1 ⟨rfl, hb⟩; have HB := Lib.hid hb; clear hb))
    go_ret2
    exact ⟨rfl, HB.out⟩
  · go_enter Try.func25, Try.ntmps25
    go_wp2_with (first | (go_at_call 63; refine (l1In_yes _ _ _ _ (by omega) (by omega)).mono ?_; rintro e w1 ⟨rfl, rfl⟩) | (go_at_call 65; refine (HP.out _).mono ?_; rintro e w1 ⟨rfl, hb⟩; have HB := Lib.hid hb; clear hb))
    go_region
    all_goals
      go_wp2
      go_ret2
      exact ⟨rfl, HB.out.drew⟩

theorem RPerf_5 : RPerf 5 = if prm 31 = true then some 496 else none := by rw [RPerf, if_pos (by decide)]; rfl
theorem impl_EvenPerfect_5 (w : World) :
    Calls Try.prog 24 #[.int .i64 5] w fun e w' => e = .returned (optRes (RPerf 5)) ∧ Below w.heap.size w w' := by
  rw [RPerf_5]
  have HP := Lib.hid (fun w' => isPrime_any 31 w' (by unfold Dv; omega))
  obtain ⟨q, hq⟩ : ∃ q, q = prm 31 := ⟨_, rfl⟩
  rw [← hq] at HP ⊢
  clear hq
  cases q
  all_goals
    go_enter Try.func24, Try.ntmps24
    go_wp2
    go_region
    all_goals
      go_wp2_with (go_at_call 64; refine (HP.out _).mono ?_; rintro e w1 ⟨rfl, hb⟩; have HB := Lib.hid (drew_step hb); clear hb)
      go_ret2
      exact ⟨rfl, HB.out⟩
theorem spec_EvenPerfect_5 (w : World) :
    Calls Try.prog 25 #[.int .i64 5] w fun e w' => e = .returned (optRes (RPerf 5)) ∧ Below w.heap.size w w' := by
  rw [RPerf_5]
  have HP := Lib.hid (fun w' => dvPrime_any 31 w' (by unfold Dv; omega) (by omega))
  obtain ⟨q, hq⟩ : ∃ q, q = prm 31 := ⟨_, rfl⟩
  rw [← hq] at HP ⊢
  clear hq
  cases q
  · go_enter Try.func25, Try.ntmps25
    go_wp2_with (first | (go_at_call 63; refine (l1In_yes _ _ _ _ (by omega) (by omega)).mono ?_; rintro e w1 ⟨rfl, rfl⟩) | (go_at_call 65; refine (HP.out _).mono ?_; rintro e w1 ⟨rfl, hb⟩; have HB := Lib.hid hb; clear hb))
    go_ret2
    exact ⟨rfl, HB.out⟩
  · go_enter Try.func25, Try.ntmps25
    go_wp2_with (first | (go_at_call 63; refine (l1In_yes _ _ _ _ (by omega) (by omega)).mono ?_; rintro e w1 ⟨rfl, rfl⟩) | (go_at_call 65; refine (HP.out _).mono ?_; rintro e w1 ⟨rfl, hb⟩; have HB := Lib.hid hb; clear hb))
    go_region
    all_goals
      go_wp2
      go_ret2
      exact ⟨rfl, HB.out.drew⟩

theorem RPerf_6 : RPerf 6 = if prm 63 = true then some 2016 else none := by rw [RPerf, if_pos (by decide)]; rfl
theorem impl_EvenPerfect_6 (w : World) :
    Calls Try.prog 24 #[.int .i64 6] w fun e w' => e = .returned (optRes (RPerf 6)) ∧ Below w.heap.size w w' := by
  rw [RPerf_6]
  have HP := Lib.hid (fun w' => isPrime_any 63 w' (by unfold Dv; omega))
  obtain ⟨q, hq⟩ : ∃ q, q = prm 63 := ⟨_, rfl⟩
  rw [← hq] at HP ⊢
  clear hq
  cases q
  all_goals
    go_enter Try.func24, Try.ntmps24
    go_wp2
    go_region
    all_goals
      go_wp2_with (go_at_call 64; refine (HP.out _).mono ?_; rintro e w1 ⟨rfl, hb⟩; have HB := Lib.hid (drew_step hb); clear hb)
      go_ret2
      exact ⟨rfl, HB.out⟩
theorem spec_EvenPerfect_6 (w : World) :
    Calls Try.prog 25 #[.int .i64 6] w fun e w' => e = .returned (optRes (RPerf 6)) ∧ Below w.heap.size w w' := by
  rw [RPerf_6]
  have HP := Lib.hid (fun w' => dvPrime_any 63 w' (by unfold Dv; omega) (by omega))
  obtain ⟨q, hq⟩ : ∃ q, q = prm 63 := ⟨_, rfl⟩
  rw [← hq] at HP ⊢
  clear hq
  cases q
  · go_enter Try.func25, Try.ntmps25
    go_wp2_with (first | (go_at_call 63; refine (l1In_yes _ _ _ _ (by omega) (by omega)).mono ?_; rintro e w1 ⟨rfl, rfl⟩) | (go_at_call 65; refine (HP.out _).mono ?_; rintro e w1 ⟨rfl, hb⟩; have HB := Lib.hid hb; clear hb))
    go_ret2
    exact ⟨rfl, HB.out⟩
  · go_enter Try.func25, Try.ntmps25
    go_wp2_with (first | (go_at_call 63; refine (l1In_yes _ _ _ _ (by omega) (by omega)).mono ?_; rintro e w1 ⟨rfl, rfl⟩) | (go_at_call 65; refine (HP.out _).mono ?_; rintro e w1 ⟨rfl, hb⟩; have HB := Lib.hid hb; clear hb))
    go_region
    all_goals
      go_wp2
      go_ret2
      exact ⟨rfl, HB.out.drew⟩

theorem RPerf_7 : RPerf 7 = if prm 127 = true then some 8128 else none := by rw [RPerf, if_pos (by decide)]; rfl
theorem impl_EvenPerfect_7 (w : World) :
    Calls Try.prog 24 #[.int .i64 7] w fun e w' => e = .returned (optRes (RPerf 7)) ∧ Below w.heap.size w w' := by
  rw [RPerf_7]
  have HP := Lib.hid (fun w' => isPrime_any 127 w' (by unfold Dv; omega))
  obtain ⟨q, hq⟩ : ∃ q, q = prm 127 := ⟨_, rfl⟩
  rw [← hq] at HP ⊢
  clear hq
  cases q
  all_goals
    go_enter Try.func24, Try.ntmps24
    go_wp2
    go_region
    all_goals
      go_wp2_with (go_at_call 64; refine (HP.out _).mono ?_; rintro e w1 ⟨rfl, hb⟩; have HB := Lib.hid (drew_step hb); clear hb)
      go_ret2
      exact ⟨rfl, HB.out⟩
theorem spec_EvenPerfect_7 (w : World) :
    Calls Try.prog 25 #[.int .i64 7] w fun e w' => e = .returned (optRes (RPerf 7)) ∧ Below w.heap.size w w' := by
  rw [RPerf_7]
  have HP := Lib.hid (fun w' => dvPrime_any 127 w' (by unfold Dv; omega) (by omega))
  obtain ⟨q, hq⟩ : ∃ q, q = prm 127 := ⟨_, rfl⟩
  rw [← hq] at HP ⊢
  clear hq
  cases q
  · go_enter Try.func25, Try.ntmps25
    go_wp2_with (first | (go_at_call 63; refine (l1In_yes _ _ _ _ (by omega) (by omega)).mono ?_; rintro e w1 ⟨rfl, rfl⟩) | (go_at_call 65; refine (HP.out _).mono ?_; rintro e w1 ⟨rfl, hb⟩; have HB := Lib.hid hb; clear hb))
    go_ret2
    exact ⟨rfl, HB.out⟩
  · go_enter Try.func25, Try.ntmps25
    go_wp2_with (first | (go_at_call 63; refine (l1In_yes _ _ _ _ (by omega) (by omega)).mono ?_; rintro e w1 ⟨rfl, rfl⟩) | (go_at_call 65; refine (HP.out _).mono ?_; rintro e w1 ⟨rfl, hb⟩; have HB := Lib.hid hb; clear hb))
    go_region
    all_goals
      go_wp2
      go_ret2
      exact ⟨rfl, HB.out.drew⟩

theorem RPerf_8 : RPerf 8 = if prm 255 = true then some 32640 else none := by rw [RPerf, if_pos (by decide)]; rfl
theorem impl_EvenPerfect_8 (w : World) :
    Calls Try.prog 24 #[.int .i64 8] w fun e w' => e = .returned (optRes (RPerf 8)) ∧ Below w.heap.size w w' := by
  rw [RPerf_8]
  have HP := Lib.hid (fun w' => isPrime_any 255 w' (by unfold Dv; omega))
  obtain ⟨q, hq⟩ : ∃ q, q = prm 255 := ⟨_, rfl⟩
  rw [← hq] at HP ⊢
  clear hq
  cases q
  all_goals
    go_enter Try.func24, Try.ntmps24
    go_wp2
    go_region
    all_goals
      go_wp2_with (go_at_call 64; refine (HP.out _).mono ?_; rintro e w1 ⟨rfl, hb⟩; have HB := Lib.hid (drew_step hb); clear hb)
      go_ret2
      exact ⟨rfl, HB.out⟩
theorem spec_EvenPerfect_8 (w : World) :
    Calls Try.prog 25 #[.int .i64 8] w fun e w' => e = .returned (optRes (RPerf 8)) ∧ Below w.heap.size w w' := by
  rw [RPerf_8]
  have HP := Lib.hid (fun w' => dvPrime_any 255 w' (by unfold Dv; omega) (by omega))
  obtain ⟨q, hq⟩ : ∃ q, q = prm 255 := ⟨_, rfl⟩
  rw [← hq] at HP ⊢
  clear hq
  cases q
  · go_enter Try.func25, Try.ntmps25
    go_wp2_with (first | (go_at_call 63; refine (l1In_yes _ _ _ _ (by omega) (by omega)).mono ?_; rintro e w1 ⟨rfl, rfl⟩) | (go_at_call 65; refine (HP.out _).mono ?_; rintro e w1 ⟨rfl, hb⟩; have HB := Lib.hid hb; clear hb))
    go_ret2
    exact ⟨rfl, HB.out⟩
  · go_enter Try.func25, Try.ntmps25
    go_wp2_with (first | (go_at_call 63; refine (l1In_yes _ _ _ _ (by omega) (by omega)).mono ?_; rintro e w1 ⟨rfl, rfl⟩) | (go_at_call 65; refine (HP.out _).mono ?_; rintro e w1 ⟨rfl, hb⟩; have HB := Lib.hid hb; clear hb))
    go_region
    all_goals
      go_wp2
      go_ret2
      exact ⟨rfl, HB.out.drew⟩

theorem RPerf_9 : RPerf 9 = if prm 511 = true then some 130816 else none := by rw [RPerf, if_pos (by decide)]; rfl
theorem impl_EvenPerfect_9 (w : World) :
    Calls Try.prog 24 #[.int .i64 9] w fun e w' => e = .returned (optRes (RPerf 9)) ∧ Below w.heap.size w w' := by
  rw [RPerf_9]
  have HP := Lib.hid (fun w' => isPrime_any 511 w' (by unfold Dv; omega))
  obtain ⟨q, hq⟩ : ∃ q, q = prm 511 := ⟨_, rfl⟩
  rw [← hq] at HP ⊢
  clear hq
  cases q
  all_goals
    go_enter Try.func24, Try.ntmps24
    go_wp2
    go_region
    all_goals
      go_wp2_with (go_at_call 64; refine (HP.out _).mono ?_; rintro e w1 ⟨rfl, hb⟩; have HB := Lib.hid (drew_step hb); clear hb)
      go_ret2
      exact ⟨rfl, HB.out⟩
theorem spec_EvenPerfect_9 (w : World) :
    Calls Try.prog 25 #[.int .i64 9] w fun e w' => e = .returned (optRes (RPerf 9)) ∧ Below w.heap.size w w' := by
  rw [RPerf_9]
  have HP := Lib.hid (fun w' => dvPrime_any 511 w' (by unfold Dv; omega) (by omega))
  obtain ⟨q, hq⟩ : ∃ q, q = prm 511 := ⟨_, rfl⟩
  rw [← hq] at HP ⊢
  clear hq
  cases q
  · go_enter Try.func25, Try.ntmps25
    go_wp2_with (first | (go_at_call 63; refine (l1In_yes _ _ _ _ (by omega) (by omega)).mono ?_; rintro e w1 ⟨rfl, rfl⟩) | (go_at_call 65; refine (HP.out _).mono ?_; rintro e w1 ⟨rfl, hb⟩; have HB := Lib.hid hb; clear hb))
    go_ret2
    exact ⟨rfl, HB.out⟩
  · go_enter Try.func25, Try.ntmps25
    go_wp2_with (first | (go_at_call 63; refine (l1In_yes _ _ _ _ (by omega) (by omega)).mono ?_; rintro e w1 ⟨rfl, rfl⟩) | (go_at_call 65; refine (HP.out _).mono ?_; rintro e w1 ⟨rfl, hb⟩; have HB := Lib.hid hb; clear hb))
    go_region
    all_goals
      go_wp2
      go_ret2
      exact ⟨rfl, HB.out.drew⟩

theorem RPerf_10 : RPerf 10 = if prm 1023 = true then some 523776 else none := by rw [RPerf, if_pos (by decide)]; rfl
theorem impl_EvenPerfect_10 (w : World) :
    Calls Try.prog 24 #[.int .i64 10] w fun e w' => e = .returned (optRes (RPerf 10)) ∧ Below w.heap.size w w' := by
  rw [RPerf_10]
  have HP := Lib.hid (fun w' => isPrime_any 1023 w' (by unfold Dv; omega))
  obtain ⟨q, hq⟩ : ∃ q, q = prm 1023 := ⟨_, rfl⟩
  rw [← hq] at HP ⊢
  clear hq
  cases q
  all_goals
    go_enter Try.func24, Try.ntmps24
    go_wp2
    go_region
    all_goals
      go_wp2_with (go_at_call 64; refine (HP.out _).mono ?_; rintro e w1 ⟨rfl, hb⟩; have HB := Lib.hid (drew_step hb); clear hb)
      go_ret2
      exact ⟨rfl, HB.out⟩
theorem spec_EvenPerfect_10 (w : World) :
    Calls Try.prog 25 #[.int .i64 10] w fun e w' => e = .returned (optRes (RPerf 10)) ∧ Below w.heap.size w w' := by
  rw [RPerf_10]
  have HP := Lib.hid (fun w' => dvPrime_any 1023 w' (by unfold Dv; omega) (by omega))
  obtain ⟨q, hq⟩ : ∃ q, q = prm 1023 := ⟨_, rfl⟩
  rw [← hq] at HP ⊢
  clear hq
  cases q
  · go_enter Try.func25, Try.ntmps25
    go_wp2_with (first | (go_at_call 63; refine (l1In_yes _ _ _ _ (by omega) (by omega)).mono ?_; rintro e w1 ⟨rfl, rfl⟩) | (go_at_call 65; refine (HP.out _).mono ?_; rintro e w1 ⟨rfl, hb⟩; have HB := Lib.hid hb; clear hb))
    go_ret2
    exact ⟨rfl, HB.out⟩
  · go_enter Try.func25, Try.ntmps25
    go_wp2_with (first | (go_at_call 63; refine (l1In_yes _ _ _ _ (by omega) (by omega)).mono ?_; rintro e w1 ⟨rfl, rfl⟩) | (go_at_call 65; refine (HP.out _).mono ?_; rintro e w1 ⟨rfl, hb⟩; have HB := Lib.hid hb; clear hb))
    go_region
    all_goals
      go_wp2
      go_ret2
      exact ⟨rfl, HB.out.drew⟩

theorem RPerf_11 : RPerf 11 = if prm 2047 = true then some 2096128 else none := by rw [RPerf, if_pos (by decide)]; rfl
theorem impl_EvenPerfect_11 (w : World) :
    Calls Try.prog 24 #[.int .i64 11] w fun e w' => e = .returned (optRes (RPerf 11)) ∧ Below w.heap.size w w' := by
  rw [RPerf_11]
  have HP := Lib.hid (fun w' => isPrime_any 2047 w' (by unfold Dv; omega))
  obtain ⟨q, hq⟩ : ∃ q, q = prm 2047 := ⟨_, rfl⟩
  rw [← hq] at HP ⊢
  clear hq
  cases q
  all_goals
    go_enter Try.func24, Try.ntmps24
    go_wp2
    go_region
    all_goals
      go_wp2_with (go_at_call 64; refine (HP.out _).mono ?_; rintro e w1 ⟨rfl, hb⟩; have HB := Lib.hid (drew_step hb); clear hb)
      go_ret2
      exact ⟨rfl, HB.out⟩
theorem spec_EvenPerfect_11 (w : World) :
    Calls Try.prog 25 #[.int .i64 11] w fun e w' => e = .returned (optRes (RPerf 11)) ∧ Below w.heap.size w w' := by
  rw [RPerf_11]
  have HP := Lib.hid (fun w' => dvPrime_any 2047 w' (by unfold Dv; omega) (by omega))
  obtain ⟨q, hq⟩ : ∃ q, q = prm 2047 := ⟨_, rfl⟩
  rw [← hq] at HP ⊢
  clear hq
  cases q
  · go_enter Try.func25, Try.ntmps25
    go_wp2_with (first | (go_at_call 63; refine (l1In_yes _ _ _ _ (by omega) (by omega)).mono ?_; rintro e w1 ⟨rfl, rfl⟩) | (go_at_call 65; refine (HP.out _).mono ?_; rintro e w1 ⟨rfl, hb⟩; have HB := Lib.hid hb; clear hb))
    go_ret2
    exact ⟨rfl, HB.out⟩
  · go_enter Try.func25, Try.ntmps25
    go_wp2_with (first | (go_at_call 63; refine (l1In_yes _ _ _ _ (by omega) (by omega)).mono ?_; rintro e w1 ⟨rfl, rfl⟩) | (go_at_call 65; refine (HP.out _).mono ?_; rintro e w1 ⟨rfl, hb⟩; have HB := Lib.hid hb; clear hb))
    go_region
    all_goals
      go_wp2
      go_ret2
      exact ⟨rfl, HB.out.drew⟩

theorem RPerf_12 : RPerf 12 = if prm 4095 = true then some 8386560 else none := by rw [RPerf, if_pos (by decide)]; rfl
theorem impl_EvenPerfect_12 (w : World) :
    Calls Try.prog 24 #[.int .i64 12] w fun e w' => e = .returned (optRes (RPerf 12)) ∧ Below w.heap.size w w' := by
  rw [RPerf_12]
  have HP := Lib.hid (fun w' => isPrime_any 4095 w' (by unfold Dv; omega))
  obtain ⟨q, hq⟩ : ∃ q, q = prm 4095 := ⟨_, rfl⟩
  rw [← hq] at HP ⊢
  clear hq
  cases q
  all_goals
    go_enter Try.func24, Try.ntmps24
    go_wp2
    go_region
    all_goals
      go_wp2_with (go_at_call 64; refine (HP.out _).mono ?_; rintro e w1 ⟨rfl, hb⟩; have HB := Lib.hid (drew_step hb); clear hb)
      go_ret2
      exact ⟨rfl, HB.out⟩
theorem spec_EvenPerfect_12 (w : World) :
    Calls Try.prog 25 #[.int .i64 12] w fun e w' => e = .returned (optRes (RPerf 12)) ∧ Below w.heap.size w w' := by
  rw [RPerf_12]
  have HP := Lib.hid (fun w' => dvPrime_any 4095 w' (by unfold Dv; omega) (by omega))
  obtain ⟨q, hq⟩ : ∃ q, q = prm 4095 := ⟨_, rfl⟩
  rw [← hq] at HP ⊢
  clear hq
  cases q
  · go_enter Try.func25, Try.ntmps25
    go_wp2_with (first | (go_at_call 63; refine (l1In_yes _ _ _ _ (by omega) (by omega)).mono ?_; rintro e w1 ⟨rfl, rfl⟩) | (go_at_call 65; refine (HP.out _).mono ?_; rintro e w1 ⟨rfl, hb⟩; have HB := Lib.hid hb; clear hb))
    go_ret2
    exact ⟨rfl, HB.out⟩
  · go_enter Try.func25, Try.ntmps25
    go_wp2_with (first | (go_at_call 63; refine (l1In_yes _ _ _ _ (by omega) (by omega)).mono ?_; rintro e w1 ⟨rfl, rfl⟩) | (go_at_call 65; refine (HP.out _).mono ?_; rintro e w1 ⟨rfl, hb⟩; have HB := Lib.hid hb; clear hb))
    go_region
    all_goals
      go_wp2
      go_ret2
      exact ⟨rfl, HB.out.drew⟩

theorem RPerf_13 : RPerf 13 = if prm 8191 = true then some 33550336 else none := by rw [RPerf, if_pos (by decide)]; rfl
theorem impl_EvenPerfect_13 (w : World) :
    Calls Try.prog 24 #[.int .i64 13] w fun e w' => e = .returned (optRes (RPerf 13)) ∧ Below w.heap.size w w' := by
  rw [RPerf_13]
  have HP := Lib.hid (fun w' => isPrime_any 8191 w' (by unfold Dv; omega))
  obtain ⟨q, hq⟩ : ∃ q, q = prm 8191 := ⟨_, rfl⟩
  rw [← hq] at HP ⊢
  clear hq
  cases q
  all_goals
    go_enter Try.func24, Try.ntmps24
    go_wp2
    go_region
    all_goals
      go_wp2_with (go_at_call 64; refine (HP.out _).mono ?_; rintro e w1 ⟨rfl, hb⟩; have HB := Lib.hid (drew_step hb); clear hb)
      go_ret2
      exact ⟨rfl, HB.out⟩
theorem spec_EvenPerfect_13 (w : World) :
    Calls Try.prog 25 #[.int .i64 13] w fun e w' => e = .returned (optRes (RPerf 13)) ∧ Below w.heap.size w w' := by
  rw [RPerf_13]
  have HP := Lib.hid (fun w' => dvPrime_any 8191 w' (by unfold Dv; omega) (by omega))
  obtain ⟨q, hq⟩ : ∃ q, q = prm 8191 := ⟨_, rfl⟩
  rw [← hq] at HP ⊢
  clear hq
  cases q
  · go_enter Try.func25, Try.ntmps25
    go_wp2_with (first | (go_at_call 63; refine (l1In_yes _ _ _ _ (by omega) (by omega)).mono ?_; rintro e w1 ⟨rfl, rfl⟩) | (go_at_call 65; refine (HP.out _).mono ?_; rintro e w1 ⟨rfl, hb⟩; have HB := Lib.hid hb; clear hb))
    go_ret2
    exact ⟨rfl, HB.out⟩
  · go_enter Try.func25, Try.ntmps25
    go_wp2_with (first | (go_at_call 63; refine (l1In_yes _ _ _ _ (by omega) (by omega)).mono ?_; rintro e w1 ⟨rfl, rfl⟩) | (go_at_call 65; refine (HP.out _).mono ?_; rintro e w1 ⟨rfl, hb⟩; have HB := Lib.hid hb; clear hb))
    go_region
    all_goals
      go_wp2
      go_ret2
      exact ⟨rfl, HB.out.drew⟩

theorem RPerf_14 : RPerf 14 = if prm 16383 = true then some 134209536 else none := by rw [RPerf, if_pos (by decide)]; rfl
theorem impl_EvenPerfect_14 (w : World) :
    Calls Try.prog 24 #[.int .i64 14] w fun e w' => e = .returned (optRes (RPerf 14)) ∧ Below w.heap.size w w' := by
  rw [RPerf_14]
  have HP := Lib.hid (fun w' => isPrime_any 16383 w' (by unfold Dv; omega))
  obtain ⟨q, hq⟩ : ∃ q, q = prm 16383 := ⟨_, rfl⟩
  rw [← hq] at HP ⊢
  clear hq
  cases q
  all_goals
    go_enter Try.func24, Try.ntmps24
    go_wp2
    go_region
    all_goals
      go_wp2_with (go_at_call 64; refine (HP.out _).mono ?_; rintro e w1 ⟨rfl, hb⟩; have HB := Lib.hid (drew_step hb); clear hb)
      go_ret2
      exact ⟨rfl, HB.out⟩
theorem spec_EvenPerfect_14 (w : World) :
    Calls Try.prog 25 #[.int .i64 14] w fun e w' => e = .returned (optRes (RPerf 14)) ∧ Below w.heap.size w w' := by
  rw [RPerf_14]
  have HP := Lib.hid (fun w' => dvPrime_any 16383 w' (by unfold Dv; omega) (by omega))
  obtain ⟨q, hq⟩ : ∃ q, q = prm 16383 := ⟨_, rfl⟩
  rw [← hq] at HP ⊢
  clear hq
  cases q
  · go_enter Try.func25, Try.ntmps25
    go_wp2_with (first | (go_at_call 63; refine (l1In_yes _ _ _ _ (by omega) (by omega)).mono ?_; rintro e w1 ⟨rfl, rfl⟩) | (go_at_call 65; refine (HP.out _).mono ?_; rintro e w1 ⟨rfl, hb⟩; have HB := Lib.hid hb; clear hb))
    go_ret2
    exact ⟨rfl, HB.out⟩
  · go_enter Try.func25, Try.ntmps25
    go_wp2_with (first | (go_at_call 63; refine (l1In_yes _ _ _ _ (by omega) (by omega)).mono ?_; rintro e w1 ⟨rfl, rfl⟩) | (go_at_call 65; refine (HP.out _).mono ?_; rintro e w1 ⟨rfl, hb⟩; have HB := Lib.hid hb; clear hb))
    go_region
    all_goals
      go_wp2
      go_ret2
      exact ⟨rfl, HB.out.drew⟩

theorem RPerf_15 : RPerf 15 = if prm 32767 = true then some 536854528 else none := by rw [RPerf, if_pos (by decide)]; rfl
theorem impl_EvenPerfect_15 (w : World) :
    Calls Try.prog 24 #[.int .i64 15] w fun e w' => e = .returned (optRes (RPerf 15)) ∧ Below w.heap.size w w' := by
  rw [RPerf_15]
  have HP := Lib.hid (fun w' => isPrime_any 32767 w' (by unfold Dv; omega))
  obtain ⟨q, hq⟩ : ∃ q, q = prm 32767 := ⟨_, rfl⟩
  rw [← hq] at HP ⊢
  clear hq
  cases q
  all_goals
    go_enter Try.func24, Try.ntmps24
    go_wp2
    go_region
    all_goals
      go_wp2_with (go_at_call 64; refine (HP.out _).mono ?_; rintro e w1 ⟨rfl, hb⟩; have HB := Lib.hid (drew_step hb); clear hb)
      go_ret2
      exact ⟨rfl, HB.out⟩
theorem spec_EvenPerfect_15 (w : World) :
    Calls Try.prog 25 #[.int .i64 15] w fun e w' => e = .returned (optRes (RPerf 15)) ∧ Below w.heap.size w w' := by
  rw [RPerf_15]
  have HP := Lib.hid (fun w' => dvPrime_any 32767 w' (by unfold Dv; omega) (by omega))
  obtain ⟨q, hq⟩ : ∃ q, q = prm 32767 := ⟨_, rfl⟩
  rw [← hq] at HP ⊢
  clear hq
  cases q
  · go_enter Try.func25, Try.ntmps25
    go_wp2_with (first | (go_at_call 63; refine (l1In_yes _ _ _ _ (by omega) (by omega)).mono ?_; rintro e w1 ⟨rfl, rfl⟩) | (go_at_call 65; refine (HP.out _).mono ?_; rintro e w1 ⟨rfl, hb⟩; have HB := Lib.hid hb; clear hb))
    go_ret2
    exact ⟨rfl, HB.out⟩
  · go_enter Try.func25, Try.ntmps25
    go_wp2_with (first | (go_at_call 63; refine (l1In_yes _ _ _ _ (by omega) (by omega)).mono ?_; rintro e w1 ⟨rfl, rfl⟩) | (go_at_call 65; refine (HP.out _).mono ?_; rintro e w1 ⟨rfl, hb⟩; have HB := Lib.hid hb; clear hb))
    go_region
    all_goals
      go_wp2
      go_ret2
      exact ⟨rfl, HB.out.drew⟩

theorem impl_EvenPerfect (p : Int) (w : World) :
    Calls Try.prog 24 #[.int .i64 p] w fun e w' => e = .returned (optRes (RPerf p)) ∧ Below w.heap.size w w' := by
  by_cases h : 2 ≤ p ∧ p ≤ 15
  · obtain rfl | rfl | rfl | rfl | rfl | rfl | rfl | rfl | rfl | rfl | rfl | rfl | rfl | rfl : p = 2 ∨ p = 3 ∨ p = 4 ∨ p = 5 ∨ p = 6 ∨ p = 7 ∨ p = 8 ∨ p = 9 ∨ p = 10 ∨ p = 11 ∨ p = 12 ∨ p = 13 ∨ p = 14 ∨ p = 15 := by omega
    · exact impl_EvenPerfect_2 w
    · exact impl_EvenPerfect_3 w
    · exact impl_EvenPerfect_4 w
    · exact impl_EvenPerfect_5 w
    · exact impl_EvenPerfect_6 w
    · exact impl_EvenPerfect_7 w
    · exact impl_EvenPerfect_8 w
    · exact impl_EvenPerfect_9 w
    · exact impl_EvenPerfect_10 w
    · exact impl_EvenPerfect_11 w
    · exact impl_EvenPerfect_12 w
    · exact impl_EvenPerfect_13 w
    · exact impl_EvenPerfect_14 w
    · exact impl_EvenPerfect_15 w
  · have HO := Lib.hid (RPerf_no h)
    rw [HO.out]
    by_cases h1 : p < 2
    all_goals
      have h2 : ¬ p < 2 → 15 < p := fun c => by omega
      first | replace h2 := h2 h1 | clear h2
      clear h
      go_enter Try.func24, Try.ntmps24
      go_wp2
      go_ret2
      exact ⟨rfl, Below.refl _ _⟩

theorem spec_EvenPerfect (p : Int) (w : World) :
    Calls Try.prog 25 #[.int .i64 p] w fun e w' => e = .returned (optRes (RPerf p)) ∧ Below w.heap.size w w' := by
  by_cases h : 2 ≤ p ∧ p ≤ 15
  · obtain rfl | rfl | rfl | rfl | rfl | rfl | rfl | rfl | rfl | rfl | rfl | rfl | rfl | rfl : p = 2 ∨ p = 3 ∨ p = 4 ∨ p = 5 ∨ p = 6 ∨ p = 7 ∨ p = 8 ∨ p = 9 ∨ p = 10 ∨ p = 11 ∨ p = 12 ∨ p = 13 ∨ p = 14 ∨ p = 15 := by omega
    · exact spec_EvenPerfect_2 w
    · exact spec_EvenPerfect_3 w
    · exact spec_EvenPerfect_4 w
    · exact spec_EvenPerfect_5 w
    · exact spec_EvenPerfect_6 w
    · exact spec_EvenPerfect_7 w
    · exact spec_EvenPerfect_8 w
    · exact spec_EvenPerfect_9 w
    · exact spec_EvenPerfect_10 w
    · exact spec_EvenPerfect_11 w
    · exact spec_EvenPerfect_12 w
    · exact spec_EvenPerfect_13 w
    · exact spec_EvenPerfect_14 w
    · exact spec_EvenPerfect_15 w
  · have HO := Lib.hid (RPerf_no h)
    rw [HO.out]
    have h2 : p < 2 ∨ 15 < p := by omega
    clear h
    go_enter Try.func25, Try.ntmps25
    go_wp2_with (go_at_call 63; refine (l1In_no _ _ _ _ h2).mono ?_; rintro e w1 ⟨rfl, rfl⟩)
    go_ret2
    exact ⟨rfl, Below.refl _ _⟩

end Go.Proofs.Ytlpmfapjgmhbhaa
