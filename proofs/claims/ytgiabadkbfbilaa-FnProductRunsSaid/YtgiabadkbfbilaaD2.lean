/-
  Sums of digits, digital roots: plain mathematics.
-/
import Derived.Test.YtgiabadkbfbilaaD
namespace Go.Proofs.Ytgiabadkbfbilaa
set_option linter.unusedVariables false
set_option linter.unusedSimpArgs false

theorem div_mod (b n : Int) : n = b * (n / b) + n % b := (Int.mul_ediv_add_emod n b).symm

theorem revD_sum (b : Int) (hb : 2 ≤ b) : ∀ (k : Nat) (n : Int), n.toNat ≤ k → 0 ≤ n → 0 ≤ (revD b n).sum ∧ (revD b n).sum ≤ n ∧ (b ≤ n → (revD b n).sum < n) := by
  intro k
  induction k with
  | zero =>
    intro n hk h0
    rw [revD_small b n (by omega)]
    simp
    omega
  | succ k ih =>
    intro n hk h0
    by_cases h : b ≤ n
    · have h2 := div_lt b n hb h
      have h3 := mod_bd b n hb
      have h4 := div_pos b n hb h
      have h5 := ih (n / b) (by omega) h2.1
      have h6 := div_mod b n
      have h7 : 2 * (n / b) ≤ b * (n / b) := Int.mul_le_mul_of_nonneg_right hb h2.1
      rw [revD_big b n hb h, List.sum_cons]
      generalize n / b = q at *
      generalize b * q = r at *
      omega
    · rw [revD_small b n h]
      simp
      omega

theorem dgs_sum (b n : Int) (hb : 2 ≤ b) (h0 : 0 ≤ n) : 0 ≤ (dgs b n).sum ∧ (dgs b n).sum ≤ n ∧ (b ≤ n → (dgs b n).sum < n) := by
  have := revD_sum b hb n.toNat n (Nat.le_refl _) h0
  rw [dgs, List.sum_reverse]
  exact this

/-- The number below b that is reached by sums of digits. -/
def dr (b n : Int) : Int := if h : 2 ≤ b ∧ b ≤ n then dr b (dgs b n).sum else n
termination_by n.toNat
decreasing_by
  have := dgs_sum b n h.1 (by omega)
  have := this.2.2 h.2
  omega

theorem dr_step (b n : Int) (hb : 2 ≤ b) (h : b ≤ n) : dr b n = dr b (dgs b n).sum := by
  rw [dr]
  simp [hb, h]
theorem dr_end (b n : Int) (h : ¬ b ≤ n) : dr b n = n := by
  rw [dr]
  simp [h]

end Go.Proofs.Ytgiabadkbfbilaa
