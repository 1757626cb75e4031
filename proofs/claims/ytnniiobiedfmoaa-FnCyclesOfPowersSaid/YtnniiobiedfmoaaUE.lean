/-
  Who may ask for powers: the program's and the model's tests.
-/
import Derived.Test.YtnniiobiedfmoaaUA
import Derived.Test.YtnniiobiedfmoaaT
import Derived.Test.YtnniiobiedfmoaaE
import Derived.Test.YtnniiobiedfmoaaK
namespace Go.Proofs.Ytnniiobiedfmoaa
open Go.RowKit
set_option linter.unusedVariables false
set_option linter.unusedSimpArgs false

theorem apart_sym2 {u v : Value} (h : u.ownBlock = none ∨ u.ownBlock ≠ v.ownBlock) : v.ownBlock = none ∨ v.ownBlock ≠ u.ownBlock := by
  cases hv : v.ownBlock with
  | none => exact .inl rfl
  | some k =>
    right
    rcases h with h | h
    · rw [h]; simp
    · rw [hv] at h; exact fun e => h e.symm

theorem isPower_any (p m : Int) (w : World) : Calls Try.prog 49 #[.int .i64 p, .int .i64 m] w fun e w' => e = .returned (.bool (decide (Pow p m))) ∧ w = w' := by
  by_cases h : 1 ≤ p
  · by_cases h2 : p ≤ m
    · have hd := Lib.hid (show decide (Pow p m) = true from decide_eq_true (p := Pow p m) ⟨h, h2⟩)
      go_enter Try.func49, Try.ntmps49
      go_wp2
      go_ret
      exact ⟨ret_bool (by rw [hd.out]; try simp [h2]), rfl⟩
    · have hd := Lib.hid (show decide (Pow p m) = false from decide_eq_false (p := Pow p m) (fun hc => by have h3 := hc.1; have h4 := hc.2; omega))
      go_enter Try.func49, Try.ntmps49
      go_wp2
      go_ret
      exact ⟨ret_bool (by rw [hd.out]; try simp [h2]), rfl⟩
  · have hd := Lib.hid (show decide (Pow p m) = false from decide_eq_false (p := Pow p m) (fun hc => by have h3 := hc.1; have h4 := hc.2; omega))
    go_enter Try.func49, Try.ntmps49
    go_wp2
    go_ret
    exact ⟨ret_bool (by rw [hd.out]; try simp [h]), rfl⟩

theorem pwPower_any (p m : Int) (w : World) : Calls Try.prog 42 #[.int .i64 p, .int .i64 m] w fun e w' => e = .returned (.bool (decide (Pow p m))) ∧ w = w' := by
  by_cases h : 1 ≤ p ∧ p ≤ m
  · have hd := Lib.hid (show decide (Pow p m) = true from decide_eq_true (p := Pow p m) h)
    obtain ⟨h1, h2⟩ := h
    go_enter Try.func42, Try.ntmps42
    go_wp2_with (go_at_call 68; refine (l1In_yes _ _ _ _ h1 h2).mono ?_; rintro e w' ⟨rfl, rfl⟩)
    go_ret
    exact ⟨ret_bool hd.out.symm, rfl⟩
  · have hd := Lib.hid (show decide (Pow p m) = false from decide_eq_false (p := Pow p m) h)
    have H := Lib.hid (show p < 1 ∨ m < p by omega)
    clear h
    go_enter Try.func42, Try.ntmps42
    go_wp2_with (go_at_call 68; refine (l1In_no _ _ _ _ H.out).mono ?_; rintro e w' ⟨rfl, rfl⟩)
    go_ret
    exact ⟨ret_bool hd.out.symm, rfl⟩

/-- Bases in which many numbers are looked through. -/
def Bas10 (b : Int) : Prop := 2 ≤ b ∧ b ≤ 10
instance (b : Int) : Decidable (Bas10 b) := by unfold Bas10; infer_instance
theorem Bas10.bas {b : Int} (h : Bas10 b) : Bas b := ⟨h.1, by have := h.2; omega⟩

theorem isSearchedBase_any (b : Int) (w : World) : Calls Try.prog 65 #[.int .i64 b] w fun e w' => e = .returned (.bool (decide (Bas10 b))) ∧ w = w' := by
  by_cases h : Bas b
  · have h1 : decide (Bas b) = true := decide_eq_true h
    by_cases h2 : b ≤ 10
    · have hd := Lib.hid (show decide (Bas10 b) = true from decide_eq_true (p := Bas10 b) ⟨h.1, h2⟩)
      clear h
      go_enter Try.func65, Try.ntmps65
      go_wp2_with (go_at_call 48; refine (isBase_any _ _).mono ?_; rintro e w1 ⟨rfl, rfl⟩)
      go_ret
      exact ⟨ret_bool (by rw [hd.out]; try simp [h2]), rfl⟩
    · have hd := Lib.hid (show decide (Bas10 b) = false from decide_eq_false (p := Bas10 b) (fun hc => h2 hc.2))
      clear h
      go_enter Try.func65, Try.ntmps65
      go_wp2_with (go_at_call 48; refine (isBase_any _ _).mono ?_; rintro e w1 ⟨rfl, rfl⟩)
      go_ret
      exact ⟨ret_bool (by rw [hd.out]; try simp [h2]), rfl⟩
  · have h1 : decide (Bas b) = false := decide_eq_false h
    have hd := Lib.hid (show decide (Bas10 b) = false from decide_eq_false (p := Bas10 b) (fun hc => h hc.bas))
    clear h
    go_enter Try.func65, Try.ntmps65
    go_wp2_with (go_at_call 48; refine (isBase_any _ _).mono ?_; rintro e w1 ⟨rfl, rfl⟩)
    go_ret
    exact ⟨ret_bool (by rw [hd.out]), rfl⟩

theorem l1In_any (n lo hi : Int) (w : World) : Calls Try.prog 68 #[.int .i64 n, .int .i64 lo, .int .i64 hi] w fun e w' => e = .returned (.bool (decide (lo ≤ n ∧ n ≤ hi))) ∧ w = w' := by
  by_cases h : lo ≤ n ∧ n ≤ hi
  · have hd : decide (lo ≤ n ∧ n ≤ hi) = true := decide_eq_true h
    refine (l1In_yes _ _ _ _ h.1 h.2).mono ?_
    rintro e w' ⟨rfl, rfl⟩
    exact ⟨by rw [hd], rfl⟩
  · have hd : decide (lo ≤ n ∧ n ≤ hi) = false := decide_eq_false h
    refine (l1In_no _ _ _ _ (by omega)).mono ?_
    rintro e w' ⟨rfl, rfl⟩
    exact ⟨by rw [hd], rfl⟩

end Go.Proofs.Ytnniiobiedfmoaa
