/-
  Who may ask: numbers and bases; the program's tell and find.
-/
import Derived.Test.YtgiabadkbfbilaaV
import Derived.Test.YtgiabadkbfbilaaR2
namespace Go.Proofs.Ytgiabadkbfbilaa
open Go.RowKit
set_option linter.unusedVariables false
set_option linter.unusedSimpArgs false

def Num (n : Int) : Prop := 0 ≤ n ∧ n ≤ 1000000000000
def Bas (b : Int) : Prop := 2 ≤ b ∧ b ≤ 16
instance (n : Int) : Decidable (Num n) := by unfold Num; infer_instance
instance (b : Int) : Decidable (Bas b) := by unfold Bas; infer_instance

theorem dgNumber_any (n : Int) (w : World) : Calls Try.prog 143 #[.int .i64 n] w fun e w' => e = .returned (.bool (decide (Num n))) ∧ w = w' := by
  by_cases h : 0 ≤ n ∧ n ≤ 1000000000000
  · have hd := Lib.hid (show decide (Num n) = true from decide_eq_true (p := Num n) h)
    obtain ⟨h1, h2⟩ := h
    go_enter Try.func143, Try.ntmps143
    go_wp2_with (go_at_call 79; refine (l1In_yes _ _ _ _ h1 h2).mono ?_; rintro e w' ⟨rfl, rfl⟩)
    go_ret
    exact ⟨ret_bool hd.out.symm, rfl⟩
  · have hd := Lib.hid (show decide (Num n) = false from decide_eq_false (p := Num n) h)
    have H := Lib.hid (show n < 0 ∨ 1000000000000 < n by omega)
    clear h
    go_enter Try.func143, Try.ntmps143
    go_wp2_with (go_at_call 79; refine (l1In_no _ _ _ _ H.out).mono ?_; rintro e w' ⟨rfl, rfl⟩)
    go_ret
    exact ⟨ret_bool hd.out.symm, rfl⟩

theorem dgBase_any (b : Int) (w : World) : Calls Try.prog 78 #[.int .i64 b] w fun e w' => e = .returned (.bool (decide (Bas b))) ∧ w = w' := by
  by_cases h : 2 ≤ b ∧ b ≤ 16
  · have hd := Lib.hid (show decide (Bas b) = true from decide_eq_true (p := Bas b) h)
    obtain ⟨h1, h2⟩ := h
    go_enter Try.func78, Try.ntmps78
    go_wp2_with (go_at_call 79; refine (l1In_yes _ _ _ _ h1 h2).mono ?_; rintro e w' ⟨rfl, rfl⟩)
    go_ret
    exact ⟨ret_bool hd.out.symm, rfl⟩
  · have hd := Lib.hid (show decide (Bas b) = false from decide_eq_false (p := Bas b) h)
    have H := Lib.hid (show b < 2 ∨ 16 < b by omega)
    clear h
    go_enter Try.func78, Try.ntmps78
    go_wp2_with (go_at_call 79; refine (l1In_no _ _ _ _ H.out).mono ?_; rintro e w' ⟨rfl, rfl⟩)
    go_ret
    exact ⟨ret_bool hd.out.symm, rfl⟩

theorem isNumber_any (n : Int) (w : World) : Calls Try.prog 140 #[.int .i64 n] w fun e w' => e = .returned (.bool (decide (Num n))) ∧ w = w' := by
  by_cases h : 0 ≤ n
  · by_cases h2 : n ≤ 1000000000000
    · have hd := Lib.hid (show decide (Num n) = true from decide_eq_true (p := Num n) ⟨h, h2⟩)
      go_enter Try.func140, Try.ntmps140
      go_wp2
      go_ret
      exact ⟨ret_bool (by rw [hd.out]; try simp [h2]), rfl⟩
    · have hd := Lib.hid (show decide (Num n) = false from decide_eq_false (p := Num n) (fun hc => by have h3 := hc.1; have h4 := hc.2; omega))
      go_enter Try.func140, Try.ntmps140
      go_wp2
      go_ret
      exact ⟨ret_bool (by rw [hd.out]; try simp [h2]), rfl⟩
  · have hd := Lib.hid (show decide (Num n) = false from decide_eq_false (p := Num n) (fun hc => by have h3 := hc.1; have h4 := hc.2; omega))
    go_enter Try.func140, Try.ntmps140
    go_wp2
    go_ret
    exact ⟨ret_bool (by rw [hd.out]; try simp [h]), rfl⟩

theorem isBase_any (n : Int) (w : World) : Calls Try.prog 111 #[.int .i64 n] w fun e w' => e = .returned (.bool (decide (Bas n))) ∧ w = w' := by
  by_cases h : 2 ≤ n
  · by_cases h2 : n ≤ 16
    · have hd := Lib.hid (show decide (Bas n) = true from decide_eq_true (p := Bas n) ⟨h, h2⟩)
      go_enter Try.func111, Try.ntmps111
      go_wp2
      go_ret
      exact ⟨ret_bool (by rw [hd.out]; try simp [h2]), rfl⟩
    · have hd := Lib.hid (show decide (Bas n) = false from decide_eq_false (p := Bas n) (fun hc => by have h3 := hc.1; have h4 := hc.2; omega))
      go_enter Try.func111, Try.ntmps111
      go_wp2
      go_ret
      exact ⟨ret_bool (by rw [hd.out]; try simp [h2]), rfl⟩
  · have hd := Lib.hid (show decide (Bas n) = false from decide_eq_false (p := Bas n) (fun hc => by have h3 := hc.1; have h4 := hc.2; omega))
    go_enter Try.func111, Try.ntmps111
    go_wp2
    go_ret
    exact ⟨ret_bool (by rw [hd.out]; try simp [h]), rfl⟩

theorem dgAsked_any (n b : Int) (w : World) : Calls Try.prog 92 #[.int .i64 n, .int .i64 b] w fun e w' => e = .returned (.bool (decide (Num n ∧ Bas b))) ∧ w = w' := by
  by_cases h : Num n
  · have hn : decide (Num n) = true := by simpa using h
    have hd := Lib.hid (show decide (Num n ∧ Bas b) = decide (Bas b) by simp [h])
    clear h
    go_enter Try.func92, Try.ntmps92
    go_wp2_with (first | (go_at_call 143; refine (dgNumber_any _ _).mono ?_; rintro e w' ⟨rfl, rfl⟩) | (go_at_call 78; refine (dgBase_any _ _).mono ?_; rintro e w' ⟨rfl, rfl⟩))
    go_ret
    exact ⟨ret_bool (by rw [hd.out]), rfl⟩
  · have hn : decide (Num n) = false := by simpa using h
    have hd := Lib.hid (show decide (Num n ∧ Bas b) = false by simp [h])
    clear h
    go_enter Try.func92, Try.ntmps92
    go_wp2_with (first | (go_at_call 143; refine (dgNumber_any _ _).mono ?_; rintro e w' ⟨rfl, rfl⟩) | (go_at_call 78; refine (dgBase_any _ _).mono ?_; rintro e w' ⟨rfl, rfl⟩))
    go_ret
    exact ⟨ret_bool (by rw [hd.out]), rfl⟩

end Go.Proofs.Ytgiabadkbfbilaa
