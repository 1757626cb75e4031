/-
  Products, reversed digits.
-/
import Derived.Test.YtdlohdjejmpmcaaC
import Derived.Test.YtdlohdjejmpmcaaE
namespace Go.Proofs.Ytdlohdjejmpmcaa
open Go.RowKit
set_option linter.unusedVariables false
set_option linter.unusedSimpArgs false

theorem digitProduct_any (n b : Int) (w : World) (h0 : 0 ≤ n) (h1 : n ≤ 1000000000000) (hb : 2 ≤ b) (hb' : b ≤ 16) :
    Calls Try.prog 61 #[.int .i64 b, .int .i64 n] w fun e w' => e = .returned (.int .i64 (prodW (dgs b n) 1)) ∧ Below w.heap.size w w' := by
  obtain ⟨xs, hxs⟩ : ∃ xs, xs = dgs b n := ⟨_, rfl⟩
  have hlen : xs.length ≤ 40 := by rw [hxs]; exact dgs_len40 b n hb h0 h1
  have HX := Lib.hid hxs
  clear hxs
  rw [← HX.out]
  go_enter Try.func61, Try.ntmps61
  go_wp2_with fail
  refine (digits_any _ _ _ h0 (by omega) hb hb').mono ?_
  rintro e w1 ⟨g, cap, rfl, hr, hbl⟩
  rw [← HX.out] at hr
  rw [← HX.out]
  have HB := Lib.hid hbl
  have hc' := Lib.hid hr.at.2.2.2.2.1
  clear hbl hr
  go_wp2
  go_loop [5, 12] (fun s i => ∃ (k : Nat) (m : Int), k ≤ xs.length ∧ i = .int .i64 k ∧ s = .int .i64 m ∧ prodW (xs.drop k) m = prodW xs 1) (fun _ i => xs.length - (intOf i).toNat)
  case atStart => exact ⟨0, 1, Nat.zero_le _, rfl, rfl, rfl⟩
  case round =>
    obtain ⟨k, m, hk, rfl, rfl, hp⟩ := hrel
    have hp' := Lib.hid hp
    clear hp
    by_cases hlt : k < xs.length
    · have hcell := hc'.out k hlt
      have hs := Lib.hid (prodW_step xs k m hlt)
      go_wp2
      go_round
      case rel => exact ⟨k + 1, wrap64 (m * xs[k]), by omega, by go_num, by first | rfl | go_num, by rw [← hs.out]; exact hp'.out⟩
      case measure => simp [intOf]; omega
    · obtain rfl : k = xs.length := by omega
      go_wp2
      go_ret
      exact ⟨ret_int (by have := hp'.out; simpa [prodW] using this), HB.out⟩

/-- What is left of a list, from the end on, in the other order. -/
theorem back_step (xs : List Int) (j : Nat) (h : j < xs.length) : (xs.drop j).reverse = (xs.drop (j + 1)).reverse ++ [xs[j]] := by
  rw [drop_cons xs j h, List.reverse_cons]

theorem rev_all {b n : Int} (h : ∀ x ∈ dgs b n, 0 ≤ x ∧ x ≤ b - 1) : ∀ x ∈ (dgs b n).reverse, 0 ≤ x ∧ x ≤ b - 1 := fun x hx => h x (List.mem_reverse.1 hx)

end Go.Proofs.Ytdlohdjejmpmcaa
