/-
  The program's and the model's widths, and how long the numbers of one take.
-/
import Derived.Test.YtamibonkbpppmaaTZ
import Derived.Test.YtamibonkbpppmaaTW
namespace Go.Proofs.Ytamibonkbpppmaa
open Go.RowKit
set_option linter.unusedVariables false
set_option linter.unusedSimpArgs false
set_option maxRecDepth 100000

theorem powerOfBase_any (b : Int) (n : Nat) (w : World) (hb : 2 ≤ b) (hb' : b ≤ 16) (hn : n ≤ 13) :
    Calls Try.prog 75 #[.int .i64 b, .int .i64 (n : Int)] w fun e w' => e = .returned (.int .i64 (b ^ n)) ∧ w = w' := by
  go_enter Try.func75, Try.ntmps75
  go_wp2
  go_loop [5, 7] (fun p i => ∃ k : Nat, k ≤ n ∧ i = .int .i64 (k : Int) ∧ p = .int .i64 (b ^ k)) (fun _ i => n - (intOf i).toNat)
  case atStart => exact ⟨0, Nat.zero_le _, rfl, by simp⟩
  case round =>
    obtain ⟨k, hk, rfl, rfl⟩ := hrel
    by_cases hlt : k < n
    · obtain ⟨p1, p2⟩ := pw_bd b hb hb' (k + 1) (by omega)
      obtain ⟨q1, q2⟩ := pw_bd b hb hb' k (by omega)
      have HS := Lib.hid (Int.pow_succ b k)
      rw [HS.out] at p1 p2
      obtain ⟨q, hq⟩ : ∃ q, q = b ^ k := ⟨_, rfl⟩
      have HQ := Lib.hid hq
      rw [← hq] at p1 p2 q1 q2
      rw [← hq]
      clear hq
      go_wp2
      go_round
      case rel => exact ⟨k + 1, by omega, by go_num, by rw [HS.out, ← HQ.out] <;> first | rfl | go_num⟩
      case measure => simp [intOf]; omega
    · obtain rfl : k = n := by omega
      go_wp2
      go_ret
      exact ⟨rfl, rfl⟩

theorem okSp_no1 {V b : Int} (h : ¬ (2 ≤ b ∧ b ≤ 16)) : okSp V b = false := by unfold okSp; rw [decide_eq_false h]; rfl
theorem okSp_no2 {V b : Int} (h : ¬ (1 ≤ V ∧ V ≤ 14)) : okSp V b = false := by unfold okSp; rw [decide_eq_false h]; simp
theorem okSp_is {V : Nat} {b : Int} (h1 : 2 ≤ b ∧ b ≤ 16) (h2 : 1 ≤ V ∧ V ≤ 14) : okSp (V : Int) b = decide ((b - 1) * b ^ (V - 1) ≤ 20000) := by
  unfold okSp
  rw [decide_eq_true h1, decide_eq_true (show 1 ≤ (V : Int) ∧ (V : Int) ≤ 14 by omega), Int.toNat_natCast]
  rfl

end Go.Proofs.Ytamibonkbpppmaa
