/-
  Smooth numbers, roots by remainders, numbers divided by their digit sums and products: the program's and the model's leaves.
-/
import Derived.Test.YtdjemoekkjbkiaaWC
namespace Go.Proofs.Ytdjemoekkjbkiaa
open Go.RowKit
set_option linter.unusedVariables false
set_option linter.unusedSimpArgs false
set_option maxRecDepth 100000

theorem dvo_bd {d n : Int} (hd : 2 ≤ d) (hn : 0 < n) (h : n % d = 0) (hb : n ≤ 1000000000000) : 0 < n / d ∧ n / d ≤ 1000000000000 ∧ n / d < n :=
  ⟨div_pos0 hd hn h, by have := (div_less hd hn).2; omega, (div_less hd hn).2⟩

theorem prSmooth_any (n b : Int) (w : World) (h0 : 0 ≤ n) (h1 : n ≤ 1000000000000) (hb : 2 ≤ b) (hb' : b ≤ 16) :
    Calls Try.prog 7 #[.int .i64 n, .int .i64 b] w fun e w' => e = .returned (.bool (smo b n)) ∧ w = w' := by
  go_enter Try.func7, Try.ntmps7
  go_wp2
  go_loop [0, 5] (fun m d => ∃ x y : Int, m = .int .i64 x ∧ d = .int .i64 y ∧ 2 ≤ y ∧ y ≤ 16 ∧ 0 ≤ x ∧ x ≤ 1000000000000 ∧ Hid (smR (b - y).toNat y x = smR (b - 2).toNat 2 n)) (fun _ d => (16 - intOf d).toNat)
  case atStart => exact ⟨n, 2, rfl, rfl, by omega, by omega, h0, h1, Lib.hid rfl⟩
  case round =>
    obtain ⟨x, y, rfl, rfl, y0, y1, x0, x1, HS⟩ := hrel
    by_cases hy : y < b
    · have HT := Lib.hid (smR_step (n := x) hy)
      go_wp2
      go_loop [0] (fun m => ∃ z : Int, m = .int .i64 z ∧ 0 ≤ z ∧ z ≤ 1000000000000 ∧ Hid (dvo y z = dvo y x)) (fun m => (intOf m).toNat)
      case atStart => exact ⟨x, rfl, x0, x1, Lib.hid rfl⟩
      case round =>
        obtain ⟨z, rfl, z0, z1, HD⟩ := hrel
        by_cases hp : 0 < z
        · by_cases hr : z % y = 0
          · have HE := Lib.hid (dvo_step y0 hp hr)
            obtain ⟨q0, q1, q2⟩ := dvo_bd y0 hp hr z1
            go_wp2
            go_round
            case rel => exact ⟨z / y, by go_num, by omega, q1, Lib.hid (by rw [← HE.out, HD.out])⟩
            case measure => simp [intOf]; omega
          · have HE := Lib.hid (dvo_end (d := y) hr)
            go_wp2
            go_round
            case rel => exact ⟨z, y + 1, rfl, by go_num, by omega, by omega, z0, z1, Lib.hid (by rw [← HS.out, HT.out, ← HD.out, HE.out])⟩
            case measure => simp [intOf]; omega
        · have HE := Lib.hid (dvo_zero (d := y) hp)
          go_wp2
          go_round
          case rel => exact ⟨z, y + 1, rfl, by go_num, by omega, by omega, z0, z1, Lib.hid (by rw [← HS.out, HT.out, ← HD.out, HE.out])⟩
          case measure => simp [intOf]; omega
    · have HT := Lib.hid (smR_end (n := x) hy)
      have HQ := Lib.hid (show smo b n = decide (x = 1) by rw [smo, ← HS.out, HT.out])
      go_wp2
      go_ret
      exact ⟨by rw [HQ.out]; simp [Bool.beq_eq_decide_eq], rfl⟩

theorem hsh_pos {b n s : Int} (h : s = sd b n) (hn : 0 < n) : hsh b n = decide (n % s = 0) := by
  rw [hsh, ← h, decide_eq_true hn, Bool.true_and]
theorem hsh_no {b n : Int} (hn : ¬ 0 < n) : hsh b n = false := by
  rw [hsh, decide_eq_false hn, Bool.false_and]

theorem zuk_pos {b n p : Int} (h : p = pd b n) (hn : 0 < p) : zuk b n = decide (n % p = 0) := by
  rw [zuk, ← h, decide_eq_true hn, Bool.true_and]
theorem zuk_no {b n p : Int} (h : p = pd b n) (hn : ¬ 0 < p) : zuk b n = false := by
  rw [zuk, ← h, decide_eq_false hn, Bool.false_and]

end Go.Proofs.Ytdjemoekkjbkiaa
