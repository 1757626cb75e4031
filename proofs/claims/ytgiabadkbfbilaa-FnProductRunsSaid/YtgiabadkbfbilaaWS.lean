/-
  Joint text of WS (written by wip/tools/merge.py).
-/
import Derived.Test.YtgiabadkbfbilaaA1
/- from XWS -/
namespace Go.Proofs.Ytgiabadkbfbilaa
open Go.RowKit
set_option linter.unusedVariables false
set_option linter.unusedSimpArgs false

/-- The sum over the digits d, d + 1, .., k of them, that divide. -/
def ctL (S : Nat → Nat) (p : Nat) : Nat → Nat → Nat
  | 0, _ => 0
  | k + 1, d => (if p % d = 0 then S (p / d) else 0) + ctL S p k (d + 1)
def ctF (b : Nat) : Nat → Nat → Nat
  | 0, _ => 1
  | f + 1, p => if p ≤ 1 then 1 else ctL (ctF b f) p (b - 2) 2
/-- How many lists of digits have a product. -/
def ct (b p : Nat) : Nat := ctF b p p

theorem ctL_congr {S T : Nat → Nat} {p : Nat} (hp : 2 ≤ p) : ∀ (k d : Nat), 2 ≤ d → (∀ q, q < p → S q = T q) → ctL S p k d = ctL T p k d
  | 0, d, _, _ => rfl
  | k + 1, d, hd, h => by
    rw [ctL, ctL, ctL_congr hp k (d + 1) (by omega) h, h (p / d) (Nat.div_lt_self (by omega) (by omega))]

theorem ctF_fuel (b : Nat) : ∀ (f g p : Nat), p ≤ f → p ≤ g → ctF b f p = ctF b g p := by
  intro f
  induction f with
  | zero =>
    intro g p hf hg
    obtain rfl : p = 0 := by omega
    cases g with
    | zero => rfl
    | succ g => simp [ctF]
  | succ f ih =>
    intro g p hf hg
    cases g with
    | zero => obtain rfl : p = 0 := by omega
              simp [ctF]
    | succ g =>
      rw [ctF, ctF]
      by_cases hp : p ≤ 1
      · rw [if_pos hp, if_pos hp]
      · rw [if_neg hp, if_neg hp]
        exact ctL_congr (by omega) _ _ (by omega) (fun q hq => ih g q (by omega) (by omega))

theorem ct_one (b p : Nat) (h : p ≤ 1) : ct b p = 1 := by
  unfold ct
  cases p with
  | zero => rfl
  | succ p => rw [ctF, if_pos h]
theorem ct_step (b p : Nat) (h : 2 ≤ p) : ct b p = ctL (ct b) p (b - 2) 2 := by
  unfold ct
  obtain ⟨q, rfl⟩ : ∃ q, p = q + 1 := ⟨p - 1, by omega⟩
  rw [ctF, if_neg (by omega)]
  exact ctL_congr h _ _ (by omega) (fun r hr => ctF_fuel b _ _ _ (by omega) (Nat.le_refl _))

/-- The weights: a thousand times the power 1.58 of a digit, rounded down; and how much of a sum it may be, of a million, rounded up. -/
def wt : Nat → Nat
  | 2 => 2989 | 3 => 5673 | 4 => 8938 | 5 => 12716 | 6 => 16960 | 7 => 21637 | 8 => 26719 | 9 => 32183 | 10 => 38010 | 11 => 44187 | 12 => 50698 | 13 => 57533 | 14 => 64679 | 15 => 72129 | _ => 0
def sh6 : Nat → Nat
  | 2 => 334561 | 3 => 176274 | 4 => 111882 | 5 => 78642 | 6 => 58963 | 7 => 46218 | 8 => 37427 | 9 => 31073 | 10 => 26309 | 11 => 22632 | 12 => 19725 | 13 => 17382 | 14 => 15461 | 15 => 13865 | _ => 0

theorem wt_ok : ∀ d, 2 ≤ d → d ≤ 15 → wt d ^ 50 ≤ 1000 ^ 50 * d ^ 79 ∧ 1000 * 1000000 ≤ sh6 d * wt d := by
  intro d h1 h2
  have hc : d = 2 ∨ d = 3 ∨ d = 4 ∨ d = 5 ∨ d = 6 ∨ d = 7 ∨ d = 8 ∨ d = 9 ∨ d = 10 ∨ d = 11 ∨ d = 12 ∨ d = 13 ∨ d = 14 ∨ d = 15 := by omega
  rcases hc with rfl | rfl | rfl | rfl | rfl | rfl | rfl | rfl | rfl | rfl | rfl | rfl | rfl | rfl <;> decide +kernel

/-- A part of a sum that is small enough is a small part of it. -/
theorem part_small {y d q S : Nat} (h1 : 2 ≤ d) (h2 : d ≤ 15) (hy : y ^ 50 ≤ q ^ 79) (hS : (q * d) ^ 79 < S ^ 50) : 1000000 * y ≤ sh6 d * S := by
  obtain ⟨w1, w2⟩ := wt_ok d h1 h2
  have a1 : (y * wt d) ^ 50 ≤ (1000 * S) ^ 50 := by
    rw [Nat.mul_pow, Nat.mul_pow]
    have e1 : y ^ 50 * wt d ^ 50 ≤ q ^ 79 * (1000 ^ 50 * d ^ 79) := Nat.mul_le_mul hy w1
    have e2 : q ^ 79 * (1000 ^ 50 * d ^ 79) = 1000 ^ 50 * (q * d) ^ 79 := by rw [Nat.mul_pow]; ac_rfl
    have e3 : 1000 ^ 50 * (q * d) ^ 79 ≤ 1000 ^ 50 * S ^ 50 := Nat.mul_le_mul_left _ (Nat.le_of_lt hS)
    omega
  have a2 : y * wt d ≤ 1000 * S := (Nat.pow_le_pow_iff_left (by decide)).1 a1
  have a3 : y * wt d * 1000000 ≤ 1000 * S * 1000000 := Nat.mul_le_mul_right _ a2
  have a4 : 1000 * 1000000 * S ≤ sh6 d * wt d * S := Nat.mul_le_mul_right _ w2
  have a5 : (1000000 * y) * wt d ≤ (sh6 d * S) * wt d := by
    have e1 : (1000000 * y) * wt d = y * wt d * 1000000 := by ac_rfl
    have e2 : 1000 * S * 1000000 = 1000 * 1000000 * S := by ac_rfl
    have e3 : (sh6 d * S) * wt d = sh6 d * wt d * S := by ac_rfl
    omega
  have hw : 0 < wt d := by
    by_cases h0 : wt d = 0
    · rw [h0] at w2; simp at w2
    · omega
  exact Nat.le_of_mul_le_mul_right a5 hw

/-- The sum of the shares. -/
def shL : Nat → Nat → Nat
  | 0, _ => 0
  | k + 1, d => sh6 d + shL k (d + 1)

theorem ctL_part {S0 : Nat → Nat} {p S : Nat} (hS : p ^ 79 < S ^ 50) (h : ∀ q, q < p → S0 q ^ 50 ≤ q ^ 79) (hp : 2 ≤ p) : ∀ (k d : Nat), 2 ≤ d → d + k ≤ 16 → 1000000 * ctL S0 p k d ≤ shL k d * S
  | 0, d, _, _ => by simp [ctL, shL]
  | k + 1, d, hd, hk => by
    have ih := ctL_part hS h hp k (d + 1) (by omega) (by omega)
    rw [ctL, shL, Nat.mul_add, Nat.add_mul]
    by_cases hm : p % d = 0
    · rw [if_pos hm]
      have hpd : p / d * d = p := Nat.div_mul_cancel (Nat.dvd_of_mod_eq_zero hm)
      have := part_small (y := S0 (p / d)) (q := p / d) (S := S) hd (by omega) (h _ (Nat.div_lt_self (by omega) (by omega))) (by rw [hpd]; exact hS)
      omega
    · rw [if_neg hm]
      omega

theorem shL_mono : ∀ (k j d : Nat), k ≤ j → shL k d ≤ shL j d
  | 0, j, d, _ => Nat.zero_le _
  | k + 1, 0, d, h => by omega
  | k + 1, j + 1, d, h => by rw [shL, shL]; have := shL_mono k j (d + 1) (by omega); omega

/-- The count of the lists is at most the power 1.58 of the product. -/
theorem ct_pow (b : Nat) (hb : b ≤ 16) : ∀ p : Nat, 1 ≤ p → ct b p ^ 50 ≤ p ^ 79 := by
  intro p
  induction p using Nat.strongRecOn with
  | ind p ih =>
    intro hp
    by_cases h1 : p ≤ 1
    · obtain rfl : p = 1 := by omega
      rw [ct_one b 1 (Nat.le_refl _)]; simp
    · rw [ct_step b p (by omega)]
      by_cases hc : ctL (ct b) p (b - 2) 2 ^ 50 ≤ p ^ 79
      · exact hc
      · exfalso
        obtain ⟨S, hS⟩ : ∃ S, S = ctL (ct b) p (b - 2) 2 := ⟨_, rfl⟩
        rw [← hS] at hc
        have h := ctL_part (S0 := fun q => if q = 0 then 0 else ct b q) (p := p) (S := S) (by omega) (fun q hq => by
          show (if q = 0 then 0 else ct b q) ^ 50 ≤ q ^ 79
          by_cases h0 : q = 0
          · rw [if_pos h0]; simp
          · rw [if_neg h0]; exact ih q hq (by omega)) (by omega) (b - 2) 2 (by omega) (by omega)
        have hcong : ∀ (k d : Nat), 2 ≤ d → ctL (fun q => if q = 0 then 0 else ct b q) p k d = ctL (ct b) p k d := by
          intro k
          induction k with
          | zero => intro d _; rfl
          | succ k ihk =>
            intro d hd
            rw [ctL, ctL, ihk (d + 1) (by omega)]
            by_cases hm : p % d = 0
            · rw [if_pos hm, if_pos hm]
              have hle : d ≤ p := Nat.le_of_dvd (by omega) (Nat.dvd_of_mod_eq_zero hm)
              have : ¬ p / d = 0 := by have := Nat.div_pos hle (by omega); omega
              simp [this]
            · rw [if_neg hm, if_neg hm]
        rw [hcong _ _ (by omega), ← hS] at h
        have h2 := shL_mono (b - 2) 14 2 (by omega)
        have h3 : shL 14 2 = 990414 := by decide
        have h4 : shL (b - 2) 2 * S ≤ 990414 * S := Nat.mul_le_mul_right _ (by omega)
        have h5 : S = 0 := by omega
        rw [h5] at hc
        simp at hc

theorem ct_lt (b p : Nat) (hb : b ≤ 16) (h1 : 1 ≤ p) (hp : p ≤ 1000000000000) : ct b p < 9223372036854775808 := by
  have h := ct_pow b hb p h1
  by_cases hc : ct b p < 9223372036854775808
  · exact hc
  · exfalso
    have a1 : 9223372036854775808 ^ 50 ≤ ct b p ^ 50 := Nat.pow_le_pow_left (by omega) 50
    have a2 : p ^ 79 ≤ 1000000000000 ^ 79 := Nat.pow_le_pow_left hp 79
    have a3 : (1000000000000 : Nat) ^ 79 < 9223372036854775808 ^ 50 := by decide +kernel
    omega

theorem ctL_le (S : Nat → Nat) (p : Nat) : ∀ (k j d : Nat), ctL S p k (d + j) ≤ ctL S p (j + k) d
  | k, 0, d => by rw [Nat.zero_add]; exact Nat.le_refl _
  | k, j + 1, d => by
    rw [show j + 1 + k = (j + k) + 1 by omega, ctL, show d + (j + 1) = (d + 1) + j by omega]
    have := ctL_le S p k j (d + 1)
    omega

/-- The fewest digits and the least one in front. -/
def mfL (S : Nat → Nat) (M : Nat → Nat × Nat) (p : Nat) : Nat → Nat → Nat × Nat → Nat × Nat
  | 0, _, a => a
  | k + 1, d, a => mfL S M p k (d + 1) (if p % d = 0 ∧ S (p / d) ≠ 0 ∧ (a.2 = 0 ∨ (M (p / d)).1 + 1 < a.1) then ((M (p / d)).1 + 1, d) else a)
def mfF (b : Nat) : Nat → Nat → Nat × Nat
  | 0, _ => (0, 0)
  | f + 1, p => if p ≤ 1 then (0, 0) else mfL (ct b) (mfF b f) p (b - 2) 2 (0, 0)
def mf (b p : Nat) : Nat × Nat := mfF b p p

theorem mfL_congr {S : Nat → Nat} {M N : Nat → Nat × Nat} {p : Nat} (hp : 2 ≤ p) : ∀ (k d : Nat) (a : Nat × Nat), 2 ≤ d → (∀ q, q < p → M q = N q) → mfL S M p k d a = mfL S N p k d a
  | 0, d, a, _, _ => rfl
  | k + 1, d, a, hd, h => by
    rw [mfL, mfL, h (p / d) (Nat.div_lt_self (by omega) (by omega)), mfL_congr hp k (d + 1) _ (by omega) h]
theorem mfF_fuel (b : Nat) : ∀ (f g p : Nat), p ≤ f → p ≤ g → mfF b f p = mfF b g p := by
  intro f
  induction f with
  | zero =>
    intro g p hf hg
    obtain rfl : p = 0 := by omega
    cases g with
    | zero => rfl
    | succ g => simp [mfF]
  | succ f ih =>
    intro g p hf hg
    cases g with
    | zero => obtain rfl : p = 0 := by omega
              simp [mfF]
    | succ g =>
      rw [mfF, mfF]
      by_cases hp : p ≤ 1
      · rw [if_pos hp, if_pos hp]
      · rw [if_neg hp, if_neg hp]
        exact mfL_congr (by omega) _ _ _ (by omega) (fun q hq => ih g q (by omega) (by omega))
theorem mf_one (b p : Nat) (h : p ≤ 1) : mf b p = (0, 0) := by
  unfold mf
  cases p with
  | zero => rfl
  | succ p => rw [mfF, if_pos h]
theorem mf_step (b p : Nat) (h : 2 ≤ p) : mf b p = mfL (ct b) (mf b) p (b - 2) 2 (0, 0) := by
  unfold mf
  obtain ⟨q, rfl⟩ : ∃ q, p = q + 1 := ⟨p - 1, by omega⟩
  rw [mfF, if_neg (by omega)]
  exact mfL_congr h _ _ _ (by omega) (fun r hr => mfF_fuel b _ _ _ (by omega) (Nat.le_refl _))

theorem mf_bd (b : Nat) (hb : b ≤ 16) : ∀ p : Nat, 1 ≤ p → (mf b p).1 ≤ p ∧ (mf b p).2 ≤ 16 := by
  intro p
  induction p using Nat.strongRecOn with
  | ind p ih =>
    intro hp
    by_cases h1 : p ≤ 1
    · rw [mf_one b p h1]; simp
    · rw [mf_step b p (by omega)]
      have key : ∀ (k d : Nat) (a : Nat × Nat), 2 ≤ d → d + k ≤ 16 → a.1 ≤ p → a.2 ≤ 16 → (mfL (ct b) (mf b) p k d a).1 ≤ p ∧ (mfL (ct b) (mf b) p k d a).2 ≤ 16 := by
        intro k
        induction k with
        | zero => intro d a _ _ ha ha2; exact ⟨ha, ha2⟩
        | succ k ihk =>
          intro d a hd hk ha ha2
          rw [mfL]
          split
          · next hc =>
            have hle : d ≤ p := Nat.le_of_dvd (by omega) (Nat.dvd_of_mod_eq_zero hc.1)
            have hpd := Nat.div_pos hle (by omega)
            have hlt : p / d < p := Nat.div_lt_self (by omega) (by omega)
            have := (ih (p / d) hlt hpd).1
            exact ihk _ _ (by omega) (by omega) (by show (mf b (p / d)).1 + 1 ≤ p; omega) (by show d ≤ 16; omega)
          · exact ihk _ _ (by omega) (by omega) ha ha2
      by_cases hb2 : b ≤ 2
      · have : b - 2 = 0 := by omega
        rw [this]; exact ⟨Nat.zero_le _, Nat.zero_le _⟩
      · exact key _ _ _ (by omega) (by omega) (Nat.zero_le _) (Nat.zero_le _)

end Go.Proofs.Ytgiabadkbfbilaa
