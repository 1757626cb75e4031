/-
  Desks: what is asked of them, and the laws of the first desk and of desks.
-/
import Derived.Test.YtoigmfplemigmaaCS
namespace Go.Proofs.Ytoigmfplemigmaa
open Go.RowKit
set_option linter.unusedVariables false
set_option linter.unusedSimpArgs false
set_option maxRecDepth 100000

theorem impl_IsDesk (n b : Int) (w : World) : Calls Try.prog 10 #[dsk n b] w fun e w' => e = .returned (.bool (decide (Num n ∧ Bas b))) ∧ Below w.heap.size w w' := by
  by_cases hn : Num n
  · have a1 : decide (Num n) = true := decide_eq_true hn
    by_cases hb : Bas b
    · have a2 : decide (Bas b) = true := decide_eq_true hb
      have a3 := Lib.hid (decide_eq_true (show Num n ∧ Bas b from ⟨hn, hb⟩))
      clear hn hb
      go_enter Try.func10, Try.ntmps10
      go_wp2_with (first | (go_at_call 12; refine (isNumber_any _ _).mono ?_; rintro e w1 ⟨rfl, rfl⟩) | (go_at_call 13; refine (isBase_any _ _).mono ?_; rintro e w1 ⟨rfl, rfl⟩))
      go_ret
      exact ⟨ret_bool a3.out.symm, alloc_belowD _ _⟩
    · have a2 : decide (Bas b) = false := decide_eq_false hb
      have a3 := Lib.hid (decide_eq_false (show ¬ (Num n ∧ Bas b) from fun h => hb h.2))
      clear hn hb
      go_enter Try.func10, Try.ntmps10
      go_wp2_with (first | (go_at_call 12; refine (isNumber_any _ _).mono ?_; rintro e w1 ⟨rfl, rfl⟩) | (go_at_call 13; refine (isBase_any _ _).mono ?_; rintro e w1 ⟨rfl, rfl⟩))
      go_ret
      exact ⟨ret_bool a3.out.symm, alloc_belowD _ _⟩
  · have a1 : decide (Num n) = false := decide_eq_false hn
    have a3 := Lib.hid (decide_eq_false (show ¬ (Num n ∧ Bas b) from fun h => hn h.1))
    clear hn
    go_enter Try.func10, Try.ntmps10
    go_wp2_with (go_at_call 12; refine (isNumber_any _ _).mono ?_; rintro e w1 ⟨rfl, rfl⟩)
    go_ret
    exact ⟨ret_bool a3.out.symm, alloc_belowD _ _⟩

theorem coGood_any (n b : Int) (w : World) : Calls Try.prog 11 #[dsk n b] w fun e w' => e = .returned (.bool (decide (Num n ∧ Bas b))) ∧ Below w.heap.size w w' := by
  obtain ⟨q, hq⟩ : ∃ q, q = decide (Num n ∧ Bas b) := ⟨_, rfl⟩
  have HD := Lib.hid (dgAsked_any n b)
  rw [← hq] at HD ⊢
  clear hq
  go_enter Try.func11, Try.ntmps11
  go_wp2_with (go_at_call 14; refine (HD.out _).mono ?_; rintro e w1 ⟨rfl, rfl⟩)
  go_ret
  exact ⟨rfl, alloc_belowD _ _⟩

theorem spec_IsDesk (n b : Int) (w : World) : Calls Try.prog 8 #[dsk n b] w fun e w' => e = .returned (.bool (decide (Num n ∧ Bas b))) ∧ Below w.heap.size w w' := by
  obtain ⟨q, hq⟩ : ∃ q, q = decide (Num n ∧ Bas b) := ⟨_, rfl⟩
  have HD := Lib.hid (coGood_any n b)
  rw [← hq] at HD ⊢
  clear hq
  have HA := Lib.hid (alloc_belowD w (.cells #[.int .i64 n, .int .i64 b] 23))
  go_enter Try.func8, Try.ntmps8
  go_wp2_with (go_at_call 11; refine (HD.out _).mono ?_; rintro e w1 ⟨rfl, hb⟩; have B1 := Lib.hid (HA.out.trans (hb.mono HA.out.size)); clear hb)
  go_ret
  exact ⟨rfl, B1.out⟩

theorem impl_FirstDesk (w : World) : Calls Try.prog 6 #[] w fun e w' => e = .returned (dsk 7 10) ∧ Below w.heap.size w w' := by
  go_enter Try.func6, Try.ntmps6
  go_wp2
  refine bodyPost_ret (v := dsk 7 10) (results_one rfl _ _ (w.heap.size) _ rfl (load_dk _ _ _ _ (by simp [go_sem]) (by simp [go_sem]))) rfl ?_
  exact ⟨rfl, alloc_belowD _ _⟩

theorem spec_FirstDesk (w : World) : Calls Try.prog 5 #[] w fun e w' => e = .returned (dsk 7 10) ∧ Below w.heap.size w w' := by
  go_enter Try.func5, Try.ntmps5
  go_wp2
  refine bodyPost_ret (v := dsk 7 10) (results_one rfl _ _ (w.heap.size) _ rfl (load_dk _ _ _ _ (by simp [go_sem]) (by simp [go_sem]))) rfl ?_
  exact ⟨rfl, alloc_belowD _ _⟩

theorem toDesk_any (n b : Int) (w : World) : Calls Try.prog 9 #[dsk n b] w fun e w' => e = .returned (dsk n b) ∧ Below w.heap.size w w' := by
  go_enter Try.func9, Try.ntmps9
  go_wp2
  refine bodyPost_ret (v := dsk n b) (results_one rfl _ _ (w.heap.size + 1) _ rfl (load_dk _ _ _ _ (by simp [go_sem]) (by simp [go_sem]))) rfl ?_
  exact ⟨rfl, (alloc_belowD _ _).trans (((alloc_belowD _ _).trans ((alloc_belowD _ _).mono (by simp))).mono (by simp))⟩

theorem eqDesk_same (n b : Int) (w : World) : Calls Try.prog 7 #[dsk n b, dsk n b] w fun e w' => e = .returned (.bool true) ∧ Below w.heap.size w w' := by
  have h1 : (n == n) = true := beq_yes rfl
  have h2 : (b == b) = true := beq_yes rfl
  go_enter Try.func7, Try.ntmps7
  go_wp2
  go_ret
  exact ⟨by first | rfl | simp, (alloc_belowD _ _).trans ((alloc_belowD _ _).mono (by simp))⟩

theorem law_IsDesk (n b : Int) (w : World) : Calls Try.prog 4 #[dsk n b] w fun e w' => e = .returned (.bool true) ∧ Below w.heap.size w w' := by
  obtain ⟨q, hq⟩ : ∃ q, q = decide (Num n ∧ Bas b) := ⟨_, rfl⟩
  have HI := Lib.hid (impl_IsDesk n b)
  have HS := Lib.hid (spec_IsDesk n b)
  have HA := Lib.hid (alloc_belowD w (.cells #[.int .i64 n, .int .i64 b] 27))
  have HC := Lib.hid (show ∀ w', Below (w.heap.size + 1) (w.alloc (.cells #[.int .i64 n, .int .i64 b] 27)) w' → w'.cell? ⟨w.heap.size, 0, none⟩ = some (.int .i64 n) ∧ w'.cell? ⟨w.heap.size, 1, none⟩ = some (.int .i64 b) from fun w' hb =>
    ⟨(hb.cell (p := ⟨w.heap.size, 0, none⟩) (by simp)).trans (by simp [go_sem]), (hb.cell (p := ⟨w.heap.size, 1, none⟩) (by simp)).trans (by simp [go_sem])⟩)
  rw [← hq] at HI HS
  clear hq
  go_enter Try.func4, Try.ntmps4
  go_wp2_with fail
  refine (toDesk_any _ _ _).mono ?_
  rintro e w1 ⟨rfl, hb⟩
  have B1 := Lib.hid (hb.mono (show w.heap.size + 1 ≤ _ by simp))
  clear hb
  go_wp2_with fail
  refine (HS.out _).mono ?_
  rintro e w2 ⟨rfl, hb⟩
  have B2 := Lib.hid (B1.out.trans (hb.mono (by have := B1.out.size; simpa using this)))
  obtain ⟨c0, c1⟩ := HC.out _ (B2.out.mono (by simp))
  clear hb
  go_wp2_with fail
  refine (toDesk_any _ _ _).mono ?_
  rintro e w3 ⟨rfl, hb⟩
  have B3 := Lib.hid (B2.out.trans (hb.mono (by have := B2.out.size; simpa using this)))
  clear hb c0 c1
  go_wp2_with fail
  refine (HI.out _).mono ?_
  rintro e w4 ⟨rfl, hb⟩
  have B4 := Lib.hid (HA.out.trans ((B3.out.trans (hb.mono (by have := B3.out.size; simpa using this))).mono (by omega)))
  clear hb
  cases q <;> (go_wp2; go_ret; exact ⟨rfl, B4.out⟩)

theorem law_FirstDesk (w : World) : Calls Try.prog 3 #[] w fun e w' => e = .returned (.bool true) ∧ Below w.heap.size w w' := by
  go_enter Try.func3, Try.ntmps3
  go_wp2_with fail
  refine (spec_FirstDesk _).mono ?_
  rintro e w1 ⟨rfl, hb⟩
  have B1 := Lib.hid (hb.trans ((alloc_belowD w1 (.cells #[.int .i64 7, .int .i64 10] 23)).mono hb.size))
  obtain ⟨v1, hv1⟩ : ∃ v1, v1 = w1.alloc (.cells #[.int .i64 7, .int .i64 10] 23) := ⟨_, rfl⟩
  have K1 := Lib.hid (show ∀ w', Below (w1.heap.size + 1) v1 w' → w'.cell? ⟨w1.heap.size, 0, none⟩ = some (.int .i64 7) ∧ w'.cell? ⟨w1.heap.size, 1, none⟩ = some (.int .i64 10) from fun w' hb => by
    subst hv1
    exact ⟨(hb.cell (p := ⟨w1.heap.size, 0, none⟩) (by simp)).trans (by simp [go_sem]), (hb.cell (p := ⟨w1.heap.size, 1, none⟩) (by simp)).trans (by simp [go_sem])⟩)
  have S1 := Lib.hid (show v1.heap.size = w1.heap.size + 1 by subst hv1; simp)
  clear hb
  go_wp2_with fail
  rw [← hv1] at B1 ⊢
  refine (impl_FirstDesk _).mono ?_
  rintro e w2 ⟨rfl, hb⟩
  have B2 := Lib.hid (B1.out.trans (hb.mono B1.out.size))
  obtain ⟨c0, c1⟩ := K1.out w2 (hb.mono (by rw [S1.out]; omega))
  have L2 := Lib.hid (show w1.heap.size < w2.heap.size by have := hb.size; rw [S1.out] at this; omega)
  have A2 := Lib.hid (alloc_belowD w2 (.cells #[.int .i64 7, .int .i64 10] 23))
  have d0 : (w2.alloc (.cells #[.int .i64 7, .int .i64 10] 23)).cell? ⟨w1.heap.size, 0, none⟩ = some (.int .i64 7) := (A2.out.cell (p := ⟨w1.heap.size, 0, none⟩) L2.out).trans c0
  have d1 : (w2.alloc (.cells #[.int .i64 7, .int .i64 10] 23)).cell? ⟨w1.heap.size, 1, none⟩ = some (.int .i64 10) := (A2.out.cell (p := ⟨w1.heap.size, 1, none⟩) L2.out).trans c1
  clear hb hv1 c0 c1
  go_wp2_with fail
  refine (eqDesk_same _ _ _).mono ?_
  rintro e w3 ⟨rfl, hb⟩
  have B3 := Lib.hid ((B2.out.trans (A2.out.mono B2.out.size)).trans (hb.mono (Nat.le_trans B2.out.size A2.out.size)))
  clear hb
  go_wp2
  go_ret
  exact ⟨rfl, B3.out⟩

end Go.Proofs.Ytoigmfplemigmaa
