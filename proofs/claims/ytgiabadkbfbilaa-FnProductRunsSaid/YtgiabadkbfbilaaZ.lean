/-
  The next palindrome: plain mathematics.
-/
import Derived.Test.YtgiabadkbfbilaaP
namespace Go.Proofs.Ytgiabadkbfbilaa
set_option linter.unusedVariables false
set_option linter.unusedSimpArgs false

/-- One more, the last place first. -/
def incR (b : Int) : List Int → List Int
  | [] => [1]
  | d :: ds => if d = b - 1 then 0 :: incR b ds else (d + 1) :: ds

theorem div_mod' (b n : Int) : n = b * (n / b) + n % b := (Int.mul_ediv_add_emod n b).symm

theorem revD_inc (b : Int) (hb : 2 ≤ b) : ∀ (k : Nat) (n : Int), n.toNat ≤ k → 0 ≤ n → revD b (n + 1) = incR b (revD b n) := by
  intro k
  induction k with
  | zero =>
    intro n hk h0
    obtain rfl : n = 0 := by omega
    rw [revD_small b 0 (by omega), revD_small b (0 + 1) (by omega), incR, if_neg (by omega)]
  | succ k ih =>
    intro n hk h0
    have h3 := mod_bd b n hb
    have h6 := div_mod' b n
    by_cases hm : n % b = b - 1
    · have hq : (n + 1) / b = n / b + 1 := by
        rw [show n + 1 = b * (n / b + 1) by rw [Int.mul_add]; omega]
        exact Int.mul_ediv_cancel_left _ (by omega)
      have hr : (n + 1) % b = 0 := by
        rw [show n + 1 = b * (n / b + 1) by rw [Int.mul_add]; omega]
        exact Int.mul_emod_right _ _
      by_cases h : b ≤ n
      · have h2 := div_lt b n hb h
        rw [revD_big b n hb h, incR, if_pos hm, revD_big b (n + 1) hb (by omega), hq, hr, ih (n / b) (by omega) h2.1]
      · have hn : n = b - 1 := by rw [mod_small b n hb h0 (by omega)] at hm; exact hm
        have h4 : n / b = 0 := div_small b n hb h0 (by omega)
        rw [revD_small b n h, incR, if_pos hn, revD_big b (n + 1) hb (by omega), hq, hr, h4, incR]
        rw [revD_small b (0 + 1) (by omega)]
        rfl
    · have hq : (n + 1) / b = n / b := by
        rw [show n + 1 = n % b + 1 + b * (n / b) by omega, Int.add_mul_ediv_left _ _ (by omega), Int.ediv_eq_zero_of_lt (by omega) (by omega)]
        omega
      have hr : (n + 1) % b = n % b + 1 := by
        rw [show n + 1 = n % b + 1 + b * (n / b) by omega, Int.add_mul_emod_self_left]
        exact Int.emod_eq_of_lt (by omega) (by omega)
      by_cases h : b ≤ n
      · rw [revD_big b n hb h, incR, if_neg hm, revD_big b (n + 1) hb (by omega), hq, hr]
      · rw [mod_small b n hb h0 (by omega)] at hm
        rw [revD_small b n h, incR, if_neg hm, revD_small b (n + 1) (by omega)]

/-- The value of digits, the first place first. -/
def val (b : Int) : List Int → Int → Int
  | [], a => a
  | d :: ds, a => val b ds (a * b + d)

theorem val_app (b : Int) : ∀ (xs ys : List Int) (a : Int), val b (xs ++ ys) a = val b ys (val b xs a) := by
  intro xs
  induction xs with
  | nil => intro ys a; rfl
  | cons d ds ih => intro ys a; exact ih ys _

theorem val_ge (b : Int) (hb : 2 ≤ b) : ∀ (xs : List Int) (a : Int), (∀ x ∈ xs, 0 ≤ x) → 0 ≤ a → a ≤ val b xs a := by
  intro xs
  induction xs with
  | nil => intro a _ _; exact Int.le_refl _
  | cons d ds ih =>
    intro a h ha
    have h0 := h d (by simp)
    have h1 : a * 1 ≤ a * b := Int.mul_le_mul_of_nonneg_left (by omega) ha
    have := ih (a * b + d) (fun x hx => h x (by simp [hx])) (by omega)
    rw [val]
    omega

theorem numF_val (b : Int) (hb : 2 ≤ b) : ∀ (xs : List Int) (a : Int), (∀ x ∈ xs, 0 ≤ x) → 0 ≤ a → a ≤ 1000000000000 →
    numF b xs a = if val b xs a ≤ 1000000000000 then some (val b xs a) else none := by
  intro xs
  induction xs with
  | nil => intro a _ _ h; rw [numF, val, if_pos h]
  | cons d ds ih =>
    intro a h ha hl
    have h0 := h d (by simp)
    have h1 : 0 ≤ a * b := Int.mul_nonneg ha (by omega)
    rw [numF, val]
    split
    · have := val_ge b hb ds (a * b + d) (fun x hx => h x (by simp [hx])) (by omega)
      rw [if_neg (by omega)]
    · exact ih _ (fun x hx => h x (by simp [hx])) (by omega) (by omega)

theorem val_dgs (b : Int) (hb : 2 ≤ b) : ∀ (k : Nat) (n : Int), n.toNat ≤ k → 0 ≤ n → val b (dgs b n) 0 = n := by
  intro k
  induction k with
  | zero =>
    intro n hk h0
    obtain rfl : n = 0 := by omega
    rw [dgs, revD_small b 0 (by omega)]
    simp [val]
  | succ k ih =>
    intro n hk h0
    by_cases h : b ≤ n
    · have h2 := div_lt b n hb h
      have h6 := div_mod' b n
      have := ih (n / b) (by omega) h2.1
      rw [dgs] at this ⊢
      rw [revD_big b n hb h, List.reverse_cons, val_app, this]
      simp only [val]
      rw [Int.mul_comm]
      omega
    · rw [dgs, revD_small b n h]
      simp [val]

/-- Lists as long as each other: less by value exactly if less by the first place that differs. -/
theorem val_lt (b : Int) (hb : 2 ≤ b) : ∀ (xs ys : List Int) (a c : Int), xs.length = ys.length → (∀ x ∈ xs, 0 ≤ x ∧ x ≤ b - 1) → (∀ y ∈ ys, 0 ≤ y ∧ y ≤ b - 1) → a < c → 0 ≤ a → val b xs a < val b ys c := by
  intro xs
  induction xs with
  | nil => intro ys a c hl _ _ h _; have : ys = [] := List.eq_nil_of_length_eq_zero hl.symm
           subst this; exact h
  | cons x xs ih =>
    intro ys a c hl hx hy h ha
    cases ys with
    | nil => simp at hl
    | cons y ys =>
      have h1 := hx x (by simp)
      have h2 := hy y (by simp)
      have h3 : (a + 1) * b ≤ c * b := Int.mul_le_mul_of_nonneg_right (by omega) (by omega)
      rw [Int.add_mul] at h3
      have h4 : 0 ≤ a * b := Int.mul_nonneg ha (by omega)
      rw [val, val]
      exact ih ys _ _ (by simpa using hl) (fun z hz => hx z (by simp [hz])) (fun z hz => hy z (by simp [hz])) (by omega) (by omega)

end Go.Proofs.Ytgiabadkbfbilaa
