/-
  Sums of powers of digits: plain mathematics.
-/
import Derived.Test.YtnniiobiedfmoaaD
import Derived.Test.YtnniiobiedfmoaaPA
namespace Go.Proofs.Ytnniiobiedfmoaa
set_option linter.unusedVariables false
set_option linter.unusedSimpArgs false

/-- The power sum of a number, its last digit first. -/
def ps (b p n : Nat) : Nat := if h : 2 ≤ b ∧ 0 < n then (n % b) ^ p + ps b p (n / b) else 0
termination_by n
decreasing_by exact Nat.div_lt_self h.2 (by omega)

theorem ps_zero (b p : Nat) : ps b p 0 = 0 := by
  rw [ps]; simp

theorem ps_step {b n : Nat} (p : Nat) (hb : 2 ≤ b) (hn : 0 < n) : ps b p n = (n % b) ^ p + ps b p (n / b) := by
  rw [ps, dif_pos ⟨hb, hn⟩]

/-- The sum of the powers of the numbers of a list. -/
def psl (p : Nat) (xs : List Int) : Nat := (xs.map fun d => d.toNat ^ p).sum

theorem psl_append (p : Nat) (xs ys : List Int) : psl p (xs ++ ys) = psl p xs + psl p ys := by simp [psl]
theorem psl_cons (p : Nat) (x : Int) (xs : List Int) : psl p (x :: xs) = x.toNat ^ p + psl p xs := by simp [psl]
theorem psl_nil (p : Nat) : psl p [] = 0 := rfl
theorem psl_reverse (p : Nat) (xs : List Int) : psl p xs.reverse = psl p xs := by
  induction xs with
  | nil => rfl
  | cons x xs ih => rw [List.reverse_cons, psl_append, ih, psl_cons, psl_cons, psl_nil]; omega
theorem psl_snoc (p : Nat) (xs : List Int) (k : Nat) (h : k < xs.length) : psl p (xs.take (k + 1)) = psl p (xs.take k) + xs[k].toNat ^ p := by
  rw [take_snoc' xs k h, psl_append, psl_cons, psl_nil]; omega
theorem psl_take_le (p : Nat) (xs : List Int) (k : Nat) : psl p (xs.take k) ≤ psl p xs := by
  have := psl_append p (xs.take k) (xs.drop k)
  rw [List.take_append_drop] at this
  omega

theorem psl_lft {b : Nat} (p : Nat) (hb : 2 ≤ b) : ∀ (N n : Nat), n ≤ N → psl p (lft (b : Int) (n : Int)) = ps b p n := by
  intro N
  induction N with
  | zero =>
    intro n hn
    obtain rfl : n = 0 := by omega
    rw [ps_zero]; rfl
  | succ N ih =>
    intro n hn
    by_cases h0 : n = 0
    · subst h0; rw [ps_zero]; rfl
    · have hlt : n / b < n := Nat.div_lt_self (by omega) (by omega)
      rw [lft_step (b : Int) (n : Int) (by omega) (by omega), psl_cons, ps_step p hb (by omega), ← ih (n / b) (by omega)]
      have e1 : ((n : Int) % (b : Int)).toNat = n % b := by rw [← Int.natCast_emod]; rfl
      have e2 : (n : Int) / (b : Int) = ((n / b : Nat) : Int) := (Int.natCast_ediv n b).symm
      rw [e1, e2]

theorem psl_dgs {b p : Nat} (hb : 2 ≤ b) (hp : 1 ≤ p) (n : Nat) : psl p (dgs (b : Int) (n : Int)) = ps b p n := by
  rw [dgs, psl_reverse]
  by_cases h0 : n = 0
  · subst h0
    have : revD (b : Int) ((0 : Nat) : Int) = [0] := revD_zero (b : Int) (by omega)
    rw [this, ps_zero, psl_cons, psl_nil]
    have : (0 : Int).toNat ^ p = 0 := Nat.zero_pow (by omega)
    omega
  · rw [← psl_lft p hb n n (Nat.le_refl _), lft, if_neg (by omega)]

theorem ps_le {b : Nat} (p : Nat) (hb : 2 ≤ b) : ∀ (k n : Nat), n < b ^ k → ps b p n ≤ k * (b - 1) ^ p := by
  intro k
  induction k with
  | zero => intro n hn; obtain rfl : n = 0 := by simpa using hn
            rw [ps_zero]; omega
  | succ k ih =>
    intro n hn
    by_cases h0 : n = 0
    · subst h0; rw [ps_zero]; omega
    · rw [ps_step p hb (by omega)]
      have h1 := ih (n / b) (by rw [Nat.div_lt_iff_lt_mul (by omega)]; rw [Nat.pow_succ] at hn; exact hn)
      have h2 : n % b ≤ b - 1 := by have := Nat.mod_lt n (show b > 0 by omega); omega
      have h3 := Nat.pow_le_pow_left h2 p
      rw [Nat.succ_mul]
      omega

theorem big_lt {b n : Nat} (hb : 2 ≤ b) (hn : n ≤ 1000000000000) : n < b ^ 40 := by
  have h1 := Nat.pow_le_pow_left hb 40
  have h2 : 2 ^ 40 = 1099511627776 := by decide
  omega

theorem pow_le8 {x p : Nat} (hx : x ≤ 15) (hp : p ≤ 8) : x ^ p ≤ 2562890625 := by
  have h1 := Nat.pow_le_pow_left hx p
  have h2 := Nat.pow_le_pow_right (show 0 < 15 by omega) hp
  have h3 : 15 ^ 8 = 2562890625 := by decide
  omega

theorem pow_le4 {x p : Nat} (hx : x ≤ 15) (hp : p ≤ 4) : x ^ p ≤ 50625 := by
  have h1 := Nat.pow_le_pow_left hx p
  have h2 := Nat.pow_le_pow_right (show 0 < 15 by omega) hp
  have h3 : 15 ^ 4 = 50625 := by decide
  omega

theorem ps_le8 {b p n : Nat} (hb : 2 ≤ b) (hb' : b ≤ 16) (hp : p ≤ 8) (hn : n ≤ 1000000000000) : ps b p n ≤ 102515625000 := by
  have h1 := ps_le p hb 40 n (big_lt hb hn)
  have h2 := pow_le8 (show b - 1 ≤ 15 by omega) hp
  omega

theorem ps_le4 {b p n : Nat} (hb : 2 ≤ b) (hb' : b ≤ 16) (hp : p ≤ 4) (hn : n ≤ 1000000000000) : ps b p n ≤ 1012500 := by
  by_cases h4 : 4 ≤ b
  · have h0 := Nat.pow_le_pow_left h4 20
    have h3 : 4 ^ 20 = 1099511627776 := by decide
    have h1 := ps_le p hb 20 n (by omega)
    have h2 := pow_le4 (show b - 1 ≤ 15 by omega) hp
    omega
  · have h1 := ps_le p hb 40 n (big_lt hb hn)
    have h2 := Nat.pow_le_pow_left (show b - 1 ≤ 2 by omega) p
    have h3 := Nat.pow_le_pow_right (show 0 < 2 by omega) hp
    have h4 : 2 ^ 4 = 16 := by decide
    omega

theorem ps_pos {b p n : Nat} (hb : 2 ≤ b) : ∀ N, n ≤ N → 0 < n → 0 < ps b p n := by
  intro N
  induction N generalizing n with
  | zero => intro h1 h2; omega
  | succ N ih =>
    intro h1 h2
    rw [ps_step p hb h2]
    by_cases h0 : n % b = 0
    · have hlt : n / b < n := Nat.div_lt_self h2 (by omega)
      have hpos : 0 < n / b := Nat.div_pos (by have := Nat.div_add_mod n b; by_cases h : n < b
                                               · rw [Nat.mod_eq_of_lt h] at h0; omega
                                               · omega) (by omega)
      have := ih (n := n / b) (by omega) hpos
      omega
    · have : 0 < (n % b) ^ p := Nat.pow_pos (by omega)
      omega

/-- Who may ask for a power. -/
def Pow (p : Int) (m : Int) : Prop := 1 ≤ p ∧ p ≤ m
instance (p m : Int) : Decidable (Pow p m) := by unfold Pow; infer_instance

end Go.Proofs.Ytnniiobiedfmoaa
