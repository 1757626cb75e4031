/-
  The program's shape of words: who may ask, how many words there are.
-/
import Derived.Test.YtadjjmlneghklaaJA
import Derived.Test.YtadjjmlneghklaaT
import Derived.Test.YtadjjmlneghklaaE2
namespace Go.Proofs.Ytadjjmlneghklaa
open Go.RowKit
set_option linter.unusedVariables false
set_option linter.unusedSimpArgs false
set_option maxRecDepth 100000

/-- Is this a width, and a base? -/
def okS (W b : Int) : Bool := decide ((1 ≤ W ∧ W ≤ 8) ∧ Bas b)
abbrev shp (W b : Int) : Value := .agg #[.int .i64 W, .int .i64 b]

theorem isValid_any (W b : Int) (w : World) : Calls Try.prog 51 #[shp W b] w fun e w' => e = .returned (.bool (okS W b)) ∧ Below w.heap.size w w' := by
  by_cases h1 : 1 ≤ W
  · by_cases h2 : W ≤ 8
    · have HO := Lib.hid (show okS W b = decide (Bas b) by unfold okS; simp [h1, h2])
      have HB := Lib.hid (show Below w.heap.size w (w.alloc (.cells #[.int .i64 W, .int .i64 b] 45)) from (Below.refl _ _).alloc (Nat.le_refl _) _)
      go_enter Try.func51, Try.ntmps51
      go_wp2_with (go_at_call 64; refine (isBase_any _ _).mono ?_; rintro e w' ⟨rfl, rfl⟩)
      go_ret
      exact ⟨ret_bool HO.out.symm, HB.out⟩
    · have HO := Lib.hid (show okS W b = false from decide_eq_false (fun h => h2 h.1.2))
      have HB := Lib.hid (show Below w.heap.size w (w.alloc (.cells #[.int .i64 W, .int .i64 b] 45)) from (Below.refl _ _).alloc (Nat.le_refl _) _)
      go_enter Try.func51, Try.ntmps51
      go_wp2
      go_ret
      exact ⟨ret_bool (by rw [HO.out]), HB.out⟩
  · have HO := Lib.hid (show okS W b = false from decide_eq_false (fun h => h1 h.1.1))
    have HB := Lib.hid (show Below w.heap.size w (w.alloc (.cells #[.int .i64 W, .int .i64 b] 45)) from (Below.refl _ _).alloc (Nat.le_refl _) _)
    go_enter Try.func51, Try.ntmps51
    go_wp2
    go_ret
    exact ⟨ret_bool (by rw [HO.out]), HB.out⟩

theorem countGaps_any (W : Nat) (b : Int) (w : World) (hW : W ≤ 8) : Calls Try.prog 76 #[shp (W : Int) b] w fun e w' => e = .returned (.int .i64 ((W / 2 : Nat) : Int)) ∧ Below w.heap.size w w' := by
  have HB := Lib.hid (show Below w.heap.size w (w.alloc (.cells #[.int .i64 (W : Int), .int .i64 b] 45)) from (Below.refl _ _).alloc (Nat.le_refl _) _)
  go_enter Try.func76, Try.ntmps76
  go_wp2
  go_ret
  exact ⟨ret_int (by omega), HB.out⟩

theorem countWords_any (W : Nat) (b : Int) (w : World) (hb : 2 ≤ b) (hb' : b ≤ 16) (hW : W ≤ 8) : Calls Try.prog 56 #[shp (W : Int) b] w fun e w' => e = .returned (.int .i64 (b ^ W)) ∧ Below w.heap.size w w' := by
  have HP := Lib.hid (show ∀ k, k ≤ W → 1 ≤ b ^ k ∧ b ^ k ≤ 4294967296 from fun k hk => ⟨by have := Int.pow_pos (n := b) (m := k) (by omega); omega, (ws_all hb hb' (show k ≤ 8 by omega)).2.2⟩)
  have HB := Lib.hid (show Below w.heap.size w (w.alloc (.cells #[.int .i64 (W : Int), .int .i64 b] 45)) from (Below.refl _ _).alloc (Nat.le_refl _) _)
  go_enter Try.func56, Try.ntmps56
  go_wp2
  go_loop [3, 6] (fun p i => ∃ k : Nat, k ≤ W ∧ i = .int .i64 (k : Int) ∧ p = .int .i64 (b ^ k)) (fun _ i => W - (intOf i).toNat)
  case atStart => exact ⟨0, Nat.zero_le _, rfl, by rw [Int.pow_zero]⟩
  case round =>
    obtain ⟨k, hk, rfl, rfl⟩ := hrel
    obtain ⟨p1, p2⟩ := HP.out k hk
    have HS := Lib.hid (Int.pow_succ b k)
    obtain ⟨p, hp⟩ : ∃ p, p = b ^ k := ⟨_, rfl⟩
    rw [← hp] at p1 p2 HS
    rw [← hp]
    by_cases hlt : k < W
    · have hpb : 0 ≤ p * b ∧ p * b ≤ 4294967296 * 16 := ⟨Int.mul_nonneg (by omega) (by omega), Int.mul_le_mul p2 hb' (by omega) (by omega)⟩
      obtain ⟨m1, m2⟩ := hpb
      clear hp
      go_wp2
      go_round
      case rel => exact ⟨k + 1, by omega, by go_num, by rw [HS.out]⟩
      case measure => simp [intOf]; omega
    · obtain rfl : k = W := by omega
      have HE := Lib.hid hp
      clear hp
      go_wp2
      go_ret
      exact ⟨ret_int (by rw [HE.out]), HB.out⟩

end Go.Proofs.Ytadjjmlneghklaa
