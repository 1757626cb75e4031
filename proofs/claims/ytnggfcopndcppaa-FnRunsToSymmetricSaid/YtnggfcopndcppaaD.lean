/-
  Digits of numbers: plain mathematics.
-/
import Derived.Test.YtnggfcopndcppaaW
namespace Go.Proofs.Ytnggfcopndcppaa
set_option linter.unusedVariables false
set_option linter.unusedSimpArgs false

theorem div_lt (b n : Int) (hb : 2 ≤ b) (hn : b ≤ n) : 0 ≤ n / b ∧ n / b < n := by
  have h1 : 0 ≤ n / b := Int.ediv_nonneg (by omega) (by omega)
  refine ⟨h1, ?_⟩
  exact Int.ediv_lt_of_lt_mul (by omega) (by have := Int.mul_le_mul_of_nonneg_left hb (show (0:Int) ≤ n by omega); omega)

theorem div_pos (b n : Int) (hb : 2 ≤ b) (hn : b ≤ n) : 1 ≤ n / b := by
  have := (Int.le_ediv_iff_mul_le (show 0 < b by omega) (a := 1) (b := n)).2 (by omega)
  exact this

theorem div_small (b n : Int) (hb : 2 ≤ b) (h0 : 0 ≤ n) (hn : n < b) : n / b = 0 := Int.ediv_eq_zero_of_lt h0 hn
theorem mod_small (b n : Int) (hb : 2 ≤ b) (h0 : 0 ≤ n) (hn : n < b) : n % b = n := Int.emod_eq_of_lt h0 hn
theorem mod_bd (b n : Int) (hb : 2 ≤ b) : 0 ≤ n % b ∧ n % b < b := ⟨Int.emod_nonneg _ (by omega), Int.emod_lt_of_pos _ (by omega)⟩
theorem div_half (b n : Int) (hb : 2 ≤ b) (h0 : 0 ≤ n) : 0 ≤ n / b ∧ n / b ≤ n / 2 := by
  have h1 : 0 ≤ n / b := Int.ediv_nonneg h0 (by omega)
  refine ⟨h1, ?_⟩
  rw [Int.le_ediv_iff_mul_le (by omega)]
  have h2 : n / b * b ≤ n := Int.ediv_mul_le _ (by omega)
  have h3 := Int.mul_le_mul_of_nonneg_left hb h1
  omega

/-- The digits of a number, the last place first. -/
def revD (b n : Int) : List Int := if h : 2 ≤ b ∧ b ≤ n then n % b :: revD b (n / b) else [n]
termination_by n.toNat
decreasing_by have := div_lt b n h.1 h.2; omega

/-- The digits of a number, the first place first. -/
def dgs (b n : Int) : List Int := (revD b n).reverse

/-- What is left of them: none for 0. -/
def lft (b m : Int) : List Int := if m = 0 then [] else revD b m

theorem revD_small (b n : Int) (h : ¬ b ≤ n) : revD b n = [n] := by
  rw [revD]
  simp [h]

theorem revD_big (b n : Int) (hb : 2 ≤ b) (h : b ≤ n) : revD b n = n % b :: revD b (n / b) := by
  rw [revD]
  simp [h, hb]

theorem revD_step (b n : Int) (hb : 2 ≤ b) (h0 : 0 ≤ n) : revD b n = n % b :: lft b (n / b) := by
  by_cases h : b ≤ n
  · have := div_pos b n hb h
    rw [revD_big b n hb h, lft, if_neg (by omega)]
  · rw [revD_small b n h, div_small b n hb h0 (by omega), mod_small b n hb h0 (by omega)]
    rfl

theorem lft_step (b m : Int) (hb : 2 ≤ b) (h0 : 0 < m) : lft b m = m % b :: lft b (m / b) := by
  rw [← revD_step b m hb (by omega), lft, if_neg (by omega)]

theorem revD_zero (b : Int) (hb : 2 ≤ b) : revD b 0 = [0] := revD_small b 0 (by omega)

theorem revD_ne (b n : Int) : revD b n ≠ [] := by
  rw [revD]
  split <;> simp

theorem revD_len (b : Int) (hb : 2 ≤ b) : ∀ (k : Nat) (n : Int), 0 ≤ n → n < 2 ^ (k + 1) → (revD b n).length ≤ k + 1 := by
  intro k
  induction k with
  | zero =>
    intro n h0 h1
    rw [revD_small b n (by simp at h1; omega)]
    simp
  | succ k ih =>
    intro n h0 h1
    by_cases h : b ≤ n
    · have h2 := div_half b n hb h0
      rw [revD_big b n hb h]
      have := ih (n / b) h2.1 (by rw [Int.pow_succ] at h1; omega)
      simpa using this
    · rw [revD_small b n h]
      simp

theorem revD_len40 (b n : Int) (hb : 2 ≤ b) (h0 : 0 ≤ n) (h1 : n ≤ 1000000000000) : (revD b n).length ≤ 40 :=
  revD_len b hb 39 n h0 (by have : (2:Int) ^ (39 + 1) = 1099511627776 := by decide
                            omega)

theorem revD_len41 (b n : Int) (hb : 2 ≤ b) (h0 : 0 ≤ n) (h1 : n ≤ 1000000000001) : (revD b n).length ≤ 40 :=
  revD_len b hb 39 n h0 (by have : (2:Int) ^ (39 + 1) = 1099511627776 := by decide
                            omega)

theorem revD_all (b : Int) (hb : 2 ≤ b) : ∀ (k : Nat) (n : Int), n.toNat ≤ k → 0 ≤ n → ∀ x ∈ revD b n, 0 ≤ x ∧ x ≤ b - 1 := by
  intro k
  induction k with
  | zero =>
    intro n hk h0 x hx
    rw [revD_small b n (by omega)] at hx
    simp at hx
    omega
  | succ k ih =>
    intro n hk h0 x hx
    by_cases h : b ≤ n
    · have h2 := div_lt b n hb h
      have h3 := mod_bd b n hb
      rw [revD_big b n hb h] at hx
      rcases List.mem_cons.1 hx with rfl | hx
      · omega
      · exact ih (n / b) (by omega) h2.1 x hx
    · rw [revD_small b n h] at hx
      simp at hx
      omega

theorem dgs_len (b n : Int) : (dgs b n).length = (revD b n).length := by simp [dgs]
theorem dgs_len40 (b n : Int) (hb : 2 ≤ b) (h0 : 0 ≤ n) (h1 : n ≤ 1000000000000) : (dgs b n).length ≤ 40 := by
  rw [dgs_len]; exact revD_len40 b n hb h0 h1
theorem dgs_all (b n : Int) (hb : 2 ≤ b) (h0 : 0 ≤ n) : ∀ x ∈ dgs b n, 0 ≤ x ∧ x ≤ b - 1 := by
  intro x hx
  exact revD_all b hb n.toNat n (Nat.le_refl _) h0 x (by simpa [dgs] using hx)
theorem dgs_ne (b n : Int) : dgs b n ≠ [] := by
  have := revD_ne b n
  simpa [dgs] using this
theorem dgs_pos (b n : Int) : 1 ≤ (dgs b n).length := by
  have := dgs_ne b n
  cases h : dgs b n with
  | nil => exact absurd h this
  | cons a t => simp

end Go.Proofs.Ytnggfcopndcppaa
