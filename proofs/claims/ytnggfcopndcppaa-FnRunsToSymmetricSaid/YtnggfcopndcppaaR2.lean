/-
  Functions that only read a slice of integers: tests.
-/
import Derived.Test.YtnggfcopndcppaaR
import Derived.Test.YtnggfcopndcppaaA
namespace Go.Proofs.Ytnggfcopndcppaa
open Go.RowKit
set_option linter.unusedVariables false
set_option linter.unusedSimpArgs false

theorem l1All_any (v : Value) (xs : List Int) (lo hi : Int) (B : Nat) (w : World) (h : Rd w B v xs) (hl : xs.length ≤ 2000000) :
    Calls Try.prog 51 #[v, .int .i64 lo, .int .i64 hi] w fun e w' => e = .returned (.bool (allIn lo hi xs)) ∧ w = w' := by
  rcases h.cases with ⟨rfl, rfl⟩ | ⟨g, cap, rfl, _, _, _, _, hc, _⟩
  · go_enter Try.func51, Try.ntmps51
    go_wp2
    refine wp_loop_rounds 1 ?_
    rw [rounds_succ]
    go_wp2
    go_ret
    exact ⟨rfl, rfl⟩
  · have hc' := Lib.hid hc
    clear hc h
    go_enter Try.func51, Try.ntmps51
    go_wp2
    go_loop [11] (fun i => ∃ k : Nat, k ≤ xs.length ∧ i = .int .i64 k ∧ allIn lo hi (xs.take k) = true) (fun i => xs.length - (intOf i).toNat)
    case atStart => exact ⟨0, Nat.zero_le _, rfl, rfl⟩
    case round =>
      obtain ⟨k, hk, rfl, hp⟩ := hrel
      have hp' := Lib.hid hp
      clear hp
      by_cases hlt : k < xs.length
      · have hcell := hc'.out k hlt
        by_cases hin : lo ≤ xs[k] ∧ xs[k] ≤ hi
        · obtain ⟨i1, i2⟩ := hin
          go_wp2_with (go_at_call 82; refine (l1In_yes _ _ _ _ (by assumption) (by assumption)).mono ?_; rintro e w' ⟨rfl, rfl⟩)
          go_round
          case rel => exact ⟨k + 1, by omega, by go_num, allIn_take lo hi xs k hlt hp'.out i1 i2⟩
          case measure => simp [intOf]; omega
        · have hin' : xs[k] < lo ∨ hi < xs[k] := by omega
          have H := Lib.hid hin'
          clear hin hin'
          go_wp2_with (go_at_call 82; refine (l1In_no _ _ _ _ H.out).mono ?_; rintro e w' ⟨rfl, rfl⟩)
          go_ret
          exact ⟨ret_bool (allIn_bad lo hi xs k hlt H.out).symm, rfl⟩
      · obtain rfl : k = xs.length := by omega
        go_wp2
        go_ret
        exact ⟨ret_bool (by have := hp'.out; rw [List.take_of_length_le (Nat.le_refl _)] at this; exact this.symm), rfl⟩

theorem areD_nil (b : Int) : areD b [] = false := rfl
theorem areD_head (b : Int) (xs : List Int) (h1 : 1 < xs.length) (h0 : xs[0] = 0) : areD b xs = false := by
  cases xs with
  | nil => simp at h1
  | cons a t => simp at h0 h1; subst h0; cases t with
    | nil => simp at h1
    | cons c u => simp [areD]
theorem areD_ok (b : Int) (xs : List Int) (h0 : 0 < xs.length) (h : xs.length = 1 ∨ xs[0] ≠ 0) : areD b xs = allIn 0 (b - 1) xs := by
  cases xs with
  | nil => simp at h0
  | cons a t =>
    simp only [areD, List.headD_cons]
    simp at h
    rcases h with h | h <;> simp [h]

theorem areDigits_any (v : Value) (xs : List Int) (b : Int) (B : Nat) (w : World) (h : Rd w B v xs) (hb : 2 ≤ b) (hb' : b ≤ 16) (hl : xs.length ≤ 2000000) :
    Calls Try.prog 90 #[.int .i64 b, v] w fun e w' => e = .returned (.bool (areD b xs)) ∧ w = w' := by
  rcases h.cases with ⟨rfl, rfl⟩ | ⟨g, cap, rfl, _, _, _, _, hc, _⟩
  · go_enter Try.func90, Try.ntmps90
    go_wp2
    go_ret
    exact ⟨rfl, rfl⟩
  · have hc' := Lib.hid hc
    clear hc h
    by_cases h0 : xs.length = 0
    · have hx : xs = [] := List.eq_nil_of_length_eq_zero h0
      subst hx
      go_enter Try.func90, Try.ntmps90
      go_wp2
      go_ret
      exact ⟨rfl, rfl⟩
    · have h0' : 0 < xs.length := by omega
      have hc0 := hc'.out 0 h0'
      have hl0 : ((xs.length : Int) == 0) = false := beq_no (by omega)
      by_cases hbad : 1 < xs.length ∧ xs[0] = 0
      · obtain ⟨h1, hz⟩ := hbad
        have hf := Lib.hid (areD_head b xs h1 hz)
        have hz' : (xs[0] == 0) = true := beq_yes hz
        clear hz h0
        go_enter Try.func90, Try.ntmps90
        go_wp2
        go_ret
        exact ⟨ret_bool hf.out.symm, rfl⟩
      · have hok := Lib.hid (areD_ok b xs h0' (by omega))
        by_cases h1 : 1 < xs.length
        all_goals
          have HZ : 1 < xs.length → (xs[0] == 0) = false := fun h => beq_no (by omega)
          have hz := HZ
          first | replace hz := HZ h1 | clear hz
          clear HZ hbad h0
          go_enter Try.func90, Try.ntmps90
          go_wp2
          go_loop [23] (fun i => ∃ k : Nat, k ≤ xs.length ∧ i = .int .i64 k ∧ allIn 0 (b - 1) (xs.take k) = true) (fun i => xs.length - (intOf i).toNat)
          case atStart => exact ⟨0, Nat.zero_le _, rfl, rfl⟩
          case round =>
            obtain ⟨k, hk, rfl, hp⟩ := hrel
            have hp' := Lib.hid hp
            clear hp
            by_cases hlt : k < xs.length
            · have hcell := hc'.out k hlt
              by_cases hin : 0 ≤ xs[k] ∧ xs[k] ≤ b - 1
              · obtain ⟨i1, i2⟩ := hin
                have i2' : xs[k] < b := by omega
                go_wp2
                go_round
                case rel => exact ⟨k + 1, by omega, by go_num, allIn_take 0 (b - 1) xs k hlt hp'.out i1 i2⟩
                case measure => simp [intOf]; omega
              · have H := Lib.hid (show xs[k] < 0 ∨ b - 1 < xs[k] by omega)
                have hf := Lib.hid (allIn_bad 0 (b - 1) xs k hlt H.out)
                by_cases hneg : xs[k] < 0
                all_goals
                  have hge : ¬ xs[k] < 0 → b ≤ xs[k] := fun h => by omega
                  first | replace hge := hge hneg | clear hge
                  clear hin
                  go_wp2
                  go_ret
                  exact ⟨ret_bool (by rw [hok.out, hf.out]), rfl⟩
            · obtain rfl : k = xs.length := by omega
              go_wp2
              go_ret
              exact ⟨ret_bool (by have := hp'.out; rw [List.take_of_length_le (Nat.le_refl _)] at this; rw [hok.out, this]), rfl⟩

/-- The two results of a list of digits: its number, if they are digits and it is not too great. -/
def numD (b : Int) (xs : List Int) : Option Int := if areD b xs = true then numF b xs 0 else none

theorem areD_all {b : Int} {xs : List Int} (h : areD b xs = true) : ∀ x ∈ xs, 0 ≤ x ∧ x ≤ b - 1 := by
  simp only [areD, Bool.and_eq_true] at h
  exact (allIn_iff _ _ _).1 h.2

end Go.Proofs.Ytnggfcopndcppaa
