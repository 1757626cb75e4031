/-
  Numbers before a step: the program's and the model's answers (written by wip/tools/gen_yi.py).
-/
import Derived.Test.YtbgnieajeipllaaYH
namespace Go.Proofs.Ytbgnieajeipllaa
open Go.RowKit
set_option linter.unusedVariables false
set_option linter.unusedSimpArgs false
set_option maxRecDepth 100000

theorem bef_tt {n q t : Int} (h : n % 6 = 4) (h2 : 2 * n ≤ 1000000000000) (hq : (n - 1) / 3 = q) (ht : 2 * n = t) : bef n = [q, t] := by rw [bef, if_pos h, if_pos h2, hq, ht]; rfl
theorem bef_tf {n q : Int} (h : n % 6 = 4) (h2 : ¬ 2 * n ≤ 1000000000000) (hq : (n - 1) / 3 = q) : bef n = [q] := by rw [bef, if_pos h, if_neg h2, hq]; rfl
theorem bef_ft {n t : Int} (h : ¬ n % 6 = 4) (h2 : 2 * n ≤ 1000000000000) (ht : 2 * n = t) : bef n = [t] := by rw [bef, if_neg h, if_pos h2, ht]; rfl
theorem bef_ff {n : Int} (h : ¬ n % 6 = 4) (h2 : ¬ 2 * n ≤ 1000000000000) : bef n = [] := by rw [bef, if_neg h, if_neg h2]; rfl

theorem stBefore_any (n : Int) (w : World) (hn : Nst n) :
    Calls Try.prog 70 #[.int .i64 n] w fun e w' => ∃ v, e = .returned v ∧ Rd w' w.heap.size v (bef n) ∧ Below w.heap.size w w' := by
  obtain ⟨h0, h1⟩ := hn
  obtain ⟨q, hq⟩ : ∃ q, (n - 1) / 3 = q := ⟨_, rfl⟩
  obtain ⟨t, ht⟩ : ∃ t, 2 * n = t := ⟨_, rfl⟩
  by_cases h6 : n % 6 = 4
  · by_cases h2 : 2 * n ≤ 1000000000000
    · have ho : (n % 6 == 4) = true := beq_yes h6
      have HB6 := Lib.hid (bef_tt h6 h2 hq ht)
      have ht2 : decide (t ≤ 1000000000000) = true := decide_eq_true (by omega)
      clear h2
      go_enter Try.func70, Try.ntmps70
      go_wp2_with (first | (at_builtin; refine wpList_appR rfl _ _ rfl w.heap.size w.heap.size _ _ [] [q] rfl rfl (Rd.nil _ _) (Rd.litB _ _ _ (Nat.le_refl _)) (by simp) (by simp) ?_; intro v1 w1 hr1 hg1 hb1; have HR1 := Lib.hid hr1; have HB1 := Lib.hid ((al_below _ _).trans hb1); have Z1 := HB1.out.size; clear hr1 hg1 hb1) | (at_builtin; refine wpList_appR rfl _ _ rfl w.heap.size w.heap.size _ _ [q] [t] rfl rfl (HR1.out.alloc _) (Rd.litB _ _ _ Z1) (by simp) (by simp; omega) ?_; intro v2 w2 hr2 hg2 hb2; have HR2 := Lib.hid hr2; have HB2 := Lib.hid ((HB1.out.alloc Z1 _).trans hb2); clear hr2 hg2 hb2))
      go_ret
      exact ⟨_, rfl, by rw [HB6.out]; exact HR2.out, HB2.out⟩
    · have ho : (n % 6 == 4) = true := beq_yes h6
      have HB6 := Lib.hid (bef_tf h6 h2 hq)
      have ht2 : decide (t ≤ 1000000000000) = false := decide_eq_false (by omega)
      clear h2
      go_enter Try.func70, Try.ntmps70
      go_wp2_with (first | (at_builtin; refine wpList_appR rfl _ _ rfl w.heap.size w.heap.size _ _ [] [q] rfl rfl (Rd.nil _ _) (Rd.litB _ _ _ (Nat.le_refl _)) (by simp) (by simp) ?_; intro v1 w1 hr1 hg1 hb1; have HR1 := Lib.hid hr1; have HB1 := Lib.hid ((al_below _ _).trans hb1); have Z1 := HB1.out.size; clear hr1 hg1 hb1))
      go_ret
      exact ⟨_, rfl, by rw [HB6.out]; exact HR1.out, HB1.out⟩
  · by_cases h2 : 2 * n ≤ 1000000000000
    · have ho : (n % 6 == 4) = false := beq_no h6
      have HB6 := Lib.hid (bef_ft h6 h2 ht)
      have ht2 : decide (t ≤ 1000000000000) = true := decide_eq_true (by omega)
      clear h2
      go_enter Try.func70, Try.ntmps70
      go_wp2_with (first | (at_builtin; refine wpList_appR rfl _ _ rfl w.heap.size w.heap.size _ _ [] [t] rfl rfl (Rd.nil _ _) (Rd.litB _ _ _ (Nat.le_refl _)) (by simp) (by simp) ?_; intro v1 w1 hr1 hg1 hb1; have HR1 := Lib.hid hr1; have HB1 := Lib.hid ((al_below _ _).trans hb1); have Z1 := HB1.out.size; clear hr1 hg1 hb1))
      go_ret
      exact ⟨_, rfl, by rw [HB6.out]; exact HR1.out, HB1.out⟩
    · have ho : (n % 6 == 4) = false := beq_no h6
      have HB6 := Lib.hid (bef_ff h6 h2)
      have ht2 : decide (t ≤ 1000000000000) = false := decide_eq_false (by omega)
      clear h2
      go_enter Try.func70, Try.ntmps70
      go_wp2
      go_ret
      exact ⟨_, rfl, by rw [HB6.out]; exact Rd.nil _ _, Below.refl _ _⟩

theorem before_any (n : Int) (w : World) (hn : Nst n) :
    Calls Try.prog 37 #[.int .i64 n] w fun e w' => ∃ v, e = .returned (.tuple #[v, .bool true]) ∧ Rd w' w.heap.size v (bef n) ∧ Below w.heap.size w w' := by
  have a1 : decide (Nst n) = true := decide_eq_true hn
  obtain ⟨h0, h1⟩ := hn
  obtain ⟨q, hq⟩ : ∃ q, (n - 1) / 3 = q := ⟨_, rfl⟩
  obtain ⟨t, ht⟩ : ∃ t, 2 * n = t := ⟨_, rfl⟩
  by_cases h6 : n % 6 = 4
  · by_cases h2 : 2 * n ≤ 1000000000000
    · have ho : (q % 2 == 1) = true := beq_yes (by omega)
      have he : (3 * q + 1 == n) = true := beq_yes (by omega)
      have HB6 := Lib.hid (bef_tt h6 h2 hq ht)
      have ht2 : decide (t ≤ 1000000000000) = true := decide_eq_true (by omega)
      clear h2
      go_enter Try.func37, Try.ntmps37
      go_wp2_with (first | (go_at_call 57; refine (isStart_any _ _).mono ?_; rintro e w1 ⟨rfl, rfl⟩) | (at_builtin; refine wpList_appR rfl _ _ rfl w.heap.size w.heap.size _ _ [] [q] rfl rfl (Rd.nil _ _) (Rd.litB _ _ _ (Nat.le_refl _)) (by simp) (by simp) ?_; intro v1 w1 hr1 hg1 hb1; have HR1 := Lib.hid hr1; have HB1 := Lib.hid ((al_below _ _).trans hb1); have Z1 := HB1.out.size; clear hr1 hg1 hb1) | (at_builtin; refine wpList_appR rfl _ _ rfl w.heap.size w.heap.size _ _ [q] [t] rfl rfl (HR1.out.alloc _) (Rd.litB _ _ _ Z1) (by simp) (by simp; omega) ?_; intro v2 w2 hr2 hg2 hb2; have HR2 := Lib.hid hr2; have HB2 := Lib.hid ((HB1.out.alloc Z1 _).trans hb2); clear hr2 hg2 hb2))
      go_ret2
      exact ⟨_, rfl, by rw [HB6.out]; exact HR2.out, HB2.out⟩
    · have ho : (q % 2 == 1) = true := beq_yes (by omega)
      have he : (3 * q + 1 == n) = true := beq_yes (by omega)
      have HB6 := Lib.hid (bef_tf h6 h2 hq)
      have ht2 : decide (t ≤ 1000000000000) = false := decide_eq_false (by omega)
      clear h2
      go_enter Try.func37, Try.ntmps37
      go_wp2_with (first | (go_at_call 57; refine (isStart_any _ _).mono ?_; rintro e w1 ⟨rfl, rfl⟩) | (at_builtin; refine wpList_appR rfl _ _ rfl w.heap.size w.heap.size _ _ [] [q] rfl rfl (Rd.nil _ _) (Rd.litB _ _ _ (Nat.le_refl _)) (by simp) (by simp) ?_; intro v1 w1 hr1 hg1 hb1; have HR1 := Lib.hid hr1; have HB1 := Lib.hid ((al_below _ _).trans hb1); have Z1 := HB1.out.size; clear hr1 hg1 hb1))
      go_ret2
      exact ⟨_, rfl, by rw [HB6.out]; exact HR1.out, HB1.out⟩
  · by_cases h2 : 2 * n ≤ 1000000000000
    · by_cases h3 : q % 2 = 1
      · have ho : (q % 2 == 1) = true := beq_yes h3
        have he : (3 * q + 1 == n) = false := beq_no (by omega)
        have HB6 := Lib.hid (bef_ft h6 h2 ht)
        have ht2 : decide (t ≤ 1000000000000) = true := decide_eq_true (by omega)
        clear h2
        go_enter Try.func37, Try.ntmps37
        go_wp2_with (first | (go_at_call 57; refine (isStart_any _ _).mono ?_; rintro e w1 ⟨rfl, rfl⟩) | (at_builtin; refine wpList_appR rfl _ _ rfl w.heap.size w.heap.size _ _ [] [t] rfl rfl (Rd.nil _ _) (Rd.litB _ _ _ (Nat.le_refl _)) (by simp) (by simp) ?_; intro v1 w1 hr1 hg1 hb1; have HR1 := Lib.hid hr1; have HB1 := Lib.hid ((al_below _ _).trans hb1); have Z1 := HB1.out.size; clear hr1 hg1 hb1))
        go_ret2
        exact ⟨_, rfl, by rw [HB6.out]; exact HR1.out, HB1.out⟩
      · have ho : (q % 2 == 1) = false := beq_no h3
        have HB6 := Lib.hid (bef_ft h6 h2 ht)
        have ht2 : decide (t ≤ 1000000000000) = true := decide_eq_true (by omega)
        clear h2
        go_enter Try.func37, Try.ntmps37
        go_wp2_with (first | (go_at_call 57; refine (isStart_any _ _).mono ?_; rintro e w1 ⟨rfl, rfl⟩) | (at_builtin; refine wpList_appR rfl _ _ rfl w.heap.size w.heap.size _ _ [] [t] rfl rfl (Rd.nil _ _) (Rd.litB _ _ _ (Nat.le_refl _)) (by simp) (by simp) ?_; intro v1 w1 hr1 hg1 hb1; have HR1 := Lib.hid hr1; have HB1 := Lib.hid ((al_below _ _).trans hb1); have Z1 := HB1.out.size; clear hr1 hg1 hb1))
        go_ret2
        exact ⟨_, rfl, by rw [HB6.out]; exact HR1.out, HB1.out⟩
    · by_cases h3 : q % 2 = 1
      · have ho : (q % 2 == 1) = true := beq_yes h3
        have he : (3 * q + 1 == n) = false := beq_no (by omega)
        have HB6 := Lib.hid (bef_ff h6 h2)
        have ht2 : decide (t ≤ 1000000000000) = false := decide_eq_false (by omega)
        clear h2
        go_enter Try.func37, Try.ntmps37
        go_wp2_with (first | (go_at_call 57; refine (isStart_any _ _).mono ?_; rintro e w1 ⟨rfl, rfl⟩))
        go_ret2
        exact ⟨_, rfl, by rw [HB6.out]; exact Rd.nil _ _, Below.refl _ _⟩
      · have ho : (q % 2 == 1) = false := beq_no h3
        have HB6 := Lib.hid (bef_ff h6 h2)
        have ht2 : decide (t ≤ 1000000000000) = false := decide_eq_false (by omega)
        clear h2
        go_enter Try.func37, Try.ntmps37
        go_wp2_with (first | (go_at_call 57; refine (isStart_any _ _).mono ?_; rintro e w1 ⟨rfl, rfl⟩))
        go_ret2
        exact ⟨_, rfl, by rw [HB6.out]; exact Rd.nil _ _, Below.refl _ _⟩

def OK_bef (n : Int) : Bool := decide (Nst n)

theorem impl_BeforeStep (n : Int) (w : World) :
    Calls Try.prog 37 #[.int .i64 n] w fun e w' => ∃ v, e = .returned (.tuple #[v, .bool (OK_bef n)]) ∧ Rd w' w.heap.size v (LF_BeforeStep n) ∧ Below w.heap.size w w' := by
  by_cases hn : Nst n
  · rw [show OK_bef n = true from decide_eq_true hn, show LF_BeforeStep n = bef n from if_pos hn]
    exact before_any n w hn
  · have a1 : decide (Nst n) = false := decide_eq_false hn
    rw [show OK_bef n = false from decide_eq_false hn, show LF_BeforeStep n = [] from if_neg hn]
    clear hn
    go_enter Try.func37, Try.ntmps37
    go_wp2_with (go_at_call 57; refine (isStart_any _ _).mono ?_; rintro e w1 ⟨rfl, rfl⟩)
    go_ret2
    exact ⟨_, rfl, Rd.nil _ _, Below.refl _ _⟩

theorem spec_BeforeStep (n : Int) (w : World) :
    Calls Try.prog 36 #[.int .i64 n] w fun e w' => ∃ v, e = .returned (.tuple #[v, .bool (OK_bef n)]) ∧ Rd w' w.heap.size v (LF_BeforeStep n) ∧ Below w.heap.size w w' := by
  by_cases hn : Nst n
  · have a1 : decide (Nst n) = true := decide_eq_true hn
    rw [show OK_bef n = true from decide_eq_true hn, show LF_BeforeStep n = bef n from if_pos hn]
    have HN := Lib.hid hn
    clear hn
    go_enter Try.func36, Try.ntmps36
    go_wp2_with (first | (go_at_call 51; refine (stNumber_any _ _).mono ?_; rintro e w1 ⟨rfl, rfl⟩) | (go_at_call 70; refine (stBefore_any n _ HN.out).mono ?_; rintro e w2 ⟨v, rfl, hr, hb⟩; have HR := Lib.hid hr; have HB2 := Lib.hid hb; clear hr hb))
    go_ret2
    exact ⟨v, rfl, HR.out, HB2.out⟩
  · have a1 : decide (Nst n) = false := decide_eq_false hn
    rw [show OK_bef n = false from decide_eq_false hn, show LF_BeforeStep n = [] from if_neg hn]
    clear hn
    go_enter Try.func36, Try.ntmps36
    go_wp2_with (go_at_call 51; refine (stNumber_any _ _).mono ?_; rintro e w1 ⟨rfl, rfl⟩)
    go_ret2
    exact ⟨_, rfl, Rd.nil _ _, Below.refl _ _⟩

end Go.Proofs.Ytbgnieajeipllaa
