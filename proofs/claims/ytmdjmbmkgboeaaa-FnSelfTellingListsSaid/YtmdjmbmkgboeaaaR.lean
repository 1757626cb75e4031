/-
  Functions that only read a slice of integers.
-/
import Derived.Test.YtmdjmbmkgboeaaaW
namespace Go.Proofs.Ytmdjmbmkgboeaaa
open Go.RowKit
set_option linter.unusedVariables false
set_option linter.unusedSimpArgs false

theorem dgSum_any (v : Value) (xs : List Int) (B : Nat) (w : World) (h : Rd w B v xs) (hb : ∀ x ∈ xs, 0 ≤ x ∧ x ≤ 1000000) (hl : xs.length ≤ 1000000) :
    Calls Try.prog 100 #[v] w fun e w' => e = .returned (.int .i64 xs.sum) ∧ w = w' := by
  rcases h.cases with ⟨rfl, rfl⟩ | ⟨g, cap, rfl, _, _, _, _, hc, _⟩
  · go_enter Try.func100, Try.ntmps100
    go_wp2
    refine wp_loop_rounds 1 ?_
    rw [rounds_succ]
    go_wp2
    go_ret
    exact ⟨rfl, rfl⟩
  · have hc' := Lib.hid hc
    have hb' := Lib.hid hb
    clear hc hb h
    go_enter Try.func100, Try.ntmps100
    go_wp2
    go_loop [3, 8] (fun s i => ∃ k : Nat, k ≤ xs.length ∧ i = .int .i64 k ∧ s = .int .i64 (xs.take k).sum) (fun _ i => xs.length - (intOf i).toNat)
    case atStart => exact ⟨0, Nat.zero_le _, rfl, rfl⟩
    case round =>
      obtain ⟨k, hk, rfl, rfl⟩ := hrel
      obtain ⟨b1, b2⟩ := sum_take_bd xs 1000000 k hb'.out (by omega) hk
      by_cases hlt : k < xs.length
      · obtain ⟨x1, x2⟩ := hb'.out _ (List.getElem_mem hlt)
        have hcell := hc'.out k hlt
        have hs := Lib.hid (sum_snoc xs k hlt)
        go_wp2
        go_round
        case rel => exact ⟨k + 1, by omega, by go_num, by rw [hs.out]⟩
        case measure => simp [intOf]; omega
      · obtain rfl : k = xs.length := by omega
        go_wp2
        go_ret
        exact ⟨ret_int (by simp), rfl⟩

end Go.Proofs.Ytmdjmbmkgboeaaa
