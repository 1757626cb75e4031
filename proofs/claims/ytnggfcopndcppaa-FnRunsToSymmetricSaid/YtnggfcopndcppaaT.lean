/-
  Who may ask: numbers and bases; the program's tell and find.
-/
import Derived.Test.YtnggfcopndcppaaV
import Derived.Test.YtnggfcopndcppaaR2
namespace Go.Proofs.Ytnggfcopndcppaa
open Go.RowKit
set_option linter.unusedVariables false
set_option linter.unusedSimpArgs false

def Num (n : Int) : Prop := 0 ≤ n ∧ n ≤ 1000000000000
def Bas (b : Int) : Prop := 2 ≤ b ∧ b ≤ 16
instance (n : Int) : Decidable (Num n) := by unfold Num; infer_instance
instance (b : Int) : Decidable (Bas b) := by unfold Bas; infer_instance

theorem dgBase_any (b : Int) (w : World) : Calls Try.prog 93 #[.int .i64 b] w fun e w' => e = .returned (.bool (decide (Bas b))) ∧ w = w' := by
  by_cases h : 2 ≤ b ∧ b ≤ 16
  · have hd := Lib.hid (show decide (Bas b) = true from decide_eq_true (p := Bas b) h)
    obtain ⟨h1, h2⟩ := h
    go_enter Try.func93, Try.ntmps93
    go_wp2_with (go_at_call 82; refine (l1In_yes _ _ _ _ h1 h2).mono ?_; rintro e w' ⟨rfl, rfl⟩)
    go_ret
    exact ⟨ret_bool hd.out.symm, rfl⟩
  · have hd := Lib.hid (show decide (Bas b) = false from decide_eq_false (p := Bas b) h)
    have H := Lib.hid (show b < 2 ∨ 16 < b by omega)
    clear h
    go_enter Try.func93, Try.ntmps93
    go_wp2_with (go_at_call 82; refine (l1In_no _ _ _ _ H.out).mono ?_; rintro e w' ⟨rfl, rfl⟩)
    go_ret
    exact ⟨ret_bool hd.out.symm, rfl⟩

theorem isBase_any (n : Int) (w : World) : Calls Try.prog 89 #[.int .i64 n] w fun e w' => e = .returned (.bool (decide (Bas n))) ∧ w = w' := by
  by_cases h : 2 ≤ n
  · by_cases h2 : n ≤ 16
    · have hd := Lib.hid (show decide (Bas n) = true from decide_eq_true (p := Bas n) ⟨h, h2⟩)
      go_enter Try.func89, Try.ntmps89
      go_wp2
      go_ret
      exact ⟨ret_bool (by rw [hd.out]; try simp [h2]), rfl⟩
    · have hd := Lib.hid (show decide (Bas n) = false from decide_eq_false (p := Bas n) (fun hc => by have h3 := hc.1; have h4 := hc.2; omega))
      go_enter Try.func89, Try.ntmps89
      go_wp2
      go_ret
      exact ⟨ret_bool (by rw [hd.out]; try simp [h2]), rfl⟩
  · have hd := Lib.hid (show decide (Bas n) = false from decide_eq_false (p := Bas n) (fun hc => by have h3 := hc.1; have h4 := hc.2; omega))
    go_enter Try.func89, Try.ntmps89
    go_wp2
    go_ret
    exact ⟨ret_bool (by rw [hd.out]; try simp [h]), rfl⟩

end Go.Proofs.Ytnggfcopndcppaa
