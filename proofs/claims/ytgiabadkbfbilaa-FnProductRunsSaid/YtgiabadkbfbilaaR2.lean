/-
  Functions that only read a slice of integers: tests.
-/
import Derived.Test.YtgiabadkbfbilaaR
import Derived.Test.YtgiabadkbfbilaaA
namespace Go.Proofs.Ytgiabadkbfbilaa
open Go.RowKit
set_option linter.unusedVariables false
set_option linter.unusedSimpArgs false

theorem l1All_any (v : Value) (xs : List Int) (lo hi : Int) (B : Nat) (w : World) (h : Rd w B v xs) (hl : xs.length ≤ 2000000) :
    Calls Try.prog 80 #[v, .int .i64 lo, .int .i64 hi] w fun e w' => e = .returned (.bool (allIn lo hi xs)) ∧ w = w' := by
  rcases h.cases with ⟨rfl, rfl⟩ | ⟨g, cap, rfl, _, _, _, _, hc, _⟩
  · go_enter Try.func80, Try.ntmps80
    go_wp2
    refine wp_loop_rounds 1 ?_
    rw [rounds_succ]
    go_wp2
    go_ret
    exact ⟨rfl, rfl⟩
  · have hc' := Lib.hid hc
    clear hc h
    go_enter Try.func80, Try.ntmps80
    go_wp2
    go_loop [11] (fun i => ∃ k : Nat, k ≤ xs.length ∧ i = .int .i64 k ∧ allIn lo hi (xs.take k) = true) (fun i => xs.length - (intOf i).toNat)
    case atStart => exact ⟨0, Nat.zero_le _, rfl, rfl⟩
    case round =>
      obtain ⟨k, hk, rfl, hp⟩ := hrel
      have hp' := Lib.hid hp
      clear hp
      by_cases hlt : k < xs.length
      · have hcell := hc'.out k hlt
        by_cases hin : lo ≤ xs[k] ∧ xs[k] ≤ hi
        · obtain ⟨i1, i2⟩ := hin
          go_wp2_with (go_at_call 79; refine (l1In_yes _ _ _ _ (by assumption) (by assumption)).mono ?_; rintro e w' ⟨rfl, rfl⟩)
          go_round
          case rel => exact ⟨k + 1, by omega, by go_num, allIn_take lo hi xs k hlt hp'.out i1 i2⟩
          case measure => simp [intOf]; omega
        · have hin' : xs[k] < lo ∨ hi < xs[k] := by omega
          have H := Lib.hid hin'
          clear hin hin'
          go_wp2_with (go_at_call 79; refine (l1In_no _ _ _ _ H.out).mono ?_; rintro e w' ⟨rfl, rfl⟩)
          go_ret
          exact ⟨ret_bool (allIn_bad lo hi xs k hlt H.out).symm, rfl⟩
      · obtain rfl : k = xs.length := by omega
        go_wp2
        go_ret
        exact ⟨ret_bool (by have := hp'.out; rw [List.take_of_length_le (Nat.le_refl _)] at this; exact this.symm), rfl⟩

theorem areD_nil (b : Int) : areD b [] = false := rfl
theorem areD_head (b : Int) (xs : List Int) (h1 : 1 < xs.length) (h0 : xs[0] = 0) : areD b xs = false := by
  cases xs with
  | nil => simp at h1
  | cons a t => simp at h0 h1; subst h0; cases t with
    | nil => simp at h1
    | cons c u => simp [areD]
theorem areD_ok (b : Int) (xs : List Int) (h0 : 0 < xs.length) (h : xs.length = 1 ∨ xs[0] ≠ 0) : areD b xs = allIn 0 (b - 1) xs := by
  cases xs with
  | nil => simp at h0
  | cons a t =>
    simp only [areD, List.headD_cons]
    simp at h
    rcases h with h | h <;> simp [h]

/-- The two results of a list of digits: its number, if they are digits and it is not too great. -/
def numD (b : Int) (xs : List Int) : Option Int := if areD b xs = true then numF b xs 0 else none

theorem areD_all {b : Int} {xs : List Int} (h : areD b xs = true) : ∀ x ∈ xs, 0 ≤ x ∧ x ≤ b - 1 := by
  simp only [areD, Bool.and_eq_true] at h
  exact (allIn_iff _ _ _).1 h.2

end Go.Proofs.Ytgiabadkbfbilaa
