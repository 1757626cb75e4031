/-
  How many numbers have each sum of squares: plain mathematics.
-/
import Derived.Test.YtnniiobiedfmoaaUM
namespace Go.Proofs.Ytnniiobiedfmoaa
set_option linter.unusedVariables false
set_option linter.unusedSimpArgs false

/-- The sum of g 0 .. g (b - 1). -/
def sm (b : Nat) (g : Nat → Nat) : Nat := ((List.range b).map g).sum
theorem sm_zero (g : Nat → Nat) : sm 0 g = 0 := rfl
theorem sm_succ (b : Nat) (g : Nat → Nat) : sm (b + 1) g = sm b g + g b := by simp [sm, List.range_succ]
theorem sm_congr {g h : Nat → Nat} : ∀ (b : Nat), (∀ d, d < b → g d = h d) → sm b g = sm b h
  | 0, _ => rfl
  | b + 1, e => by rw [sm_succ, sm_succ, sm_congr b (fun d hd => e d (by omega)), e b (by omega)]
theorem sm_le {g : Nat → Nat} {M : Nat} : ∀ (b : Nat), (∀ d, d < b → g d ≤ M) → sm b g ≤ b * M
  | 0, _ => by rw [sm_zero]; omega
  | b + 1, e => by
    have h1 := sm_le b (fun d hd => e d (by omega))
    have h2 := e b (by omega)
    rw [sm_succ, Nat.succ_mul]
    omega
theorem sm_none {g : Nat → Nat} (b : Nat) (h : ∀ d, d < b → g d = 0) : sm b g = 0 := by
  have := sm_le (g := g) (M := 0) b (fun d hd => by rw [h d hd]; omega)
  omega
theorem sm_change {g h : Nat → Nat} {y v : Nat} : ∀ (b : Nat), y < b → (∀ d, d < b → d ≠ y → g d = h d) → h y = g y + v → sm b h = sm b g + v
  | 0, hy, _, _ => absurd hy (Nat.not_lt_zero _)
  | b + 1, hy, e, ev => by
    rw [sm_succ, sm_succ]
    by_cases hb : y = b
    · subst hb
      rw [sm_congr y (fun d hd => (e d (by omega) (by omega)).symm), ev]
      omega
    · rw [sm_change b (by omega) (fun d hd hne => e d (by omega) hne) ev, e b (by omega) (fun h => hb h.symm)]
      omega

/-- One digit more. -/
def nx (f : Nat → Nat) (b s : Nat) : Nat := sm b fun d => if d * d ≤ s then f (s - d * d) else 0
/-- What has been counted when the sums below x are done, and of x the digits below y. -/
def ac (f : Nat → Nat) (b x y s : Nat) : Nat := sm b fun d => if d * d ≤ s ∧ (s - d * d < x ∨ (s - d * d = x ∧ d < y)) then f (s - d * d) else 0

theorem ac_zero (f : Nat → Nat) (b s : Nat) : ac f b 0 0 s = 0 := sm_none b fun d hd => by
  rw [if_neg]; omega
theorem ac_step {f : Nat → Nat} {b x y : Nat} (hy : y < b) (s : Nat) : ac f b x (y + 1) s = ac f b x y s + (if s = x + y * y then f x else 0) := by
  refine sm_change b hy (fun d hd hne => ?_) ?_
  · by_cases h : d * d ≤ s ∧ (s - d * d < x ∨ (s - d * d = x ∧ d < y))
    · rw [if_pos h, if_pos ⟨h.1, by omega⟩]
    · rw [if_neg h, if_neg]; omega
  · by_cases h1 : s = x + y * y
    · have e : s - y * y = x := by omega
      rw [if_pos h1, if_pos ⟨by omega, by omega⟩, if_neg (by omega), e]
      omega
    · rw [if_neg h1]
      by_cases h : y * y ≤ s ∧ (s - y * y < x ∨ (s - y * y = x ∧ y < y))
      · rw [if_pos h, if_pos ⟨h.1, by omega⟩]; rfl
      · rw [if_neg h, if_neg]; omega
theorem ac_row (f : Nat → Nat) (b x s : Nat) : ac f b x b s = ac f b (x + 1) 0 s := sm_congr b fun d hd => by
  by_cases h : d * d ≤ s ∧ (s - d * d < x ∨ (s - d * d = x ∧ d < b))
  · rw [if_pos h, if_pos ⟨h.1, by omega⟩]
  · rw [if_neg h, if_neg]; omega
theorem ac_skip {f : Nat → Nat} {x : Nat} (hf : f x = 0) (b s : Nat) : ac f b x 0 s = ac f b (x + 1) 0 s := sm_congr b fun d hd => by
  by_cases h : d * d ≤ s ∧ (s - d * d < x ∨ (s - d * d = x ∧ d < 0))
  · rw [if_pos h, if_pos ⟨h.1, by omega⟩]
  · rw [if_neg h]
    by_cases h2 : d * d ≤ s ∧ (s - d * d < x + 1 ∨ (s - d * d = x + 1 ∧ d < 0))
    · rw [if_pos h2, show s - d * d = x from by omega, hf]
    · rw [if_neg h2]
theorem ac_le {f : Nat → Nat} {M : Nat} (h : ∀ z, f z ≤ M) (b x y s : Nat) : ac f b x y s ≤ b * M := sm_le b fun d hd => by
  split
  · exact h _
  · omega
theorem nx_le {f : Nat → Nat} {M : Nat} (h : ∀ z, f z ≤ M) (b s : Nat) : nx f b s ≤ b * M := sm_le b fun d hd => by
  split
  · exact h _
  · omega
theorem ac_all {f : Nat → Nat} {n : Nat} (h : ∀ z, n ≤ z → f z = 0) (b s : Nat) : ac f b n 0 s = nx f b s := sm_congr b fun d hd => by
  by_cases h1 : d * d ≤ s
  · rw [if_pos h1]
    by_cases h2 : s - d * d < n
    · rw [if_pos ⟨h1, .inl h2⟩]
    · rw [if_neg (by omega), h _ (by omega)]
  · rw [if_neg h1, if_neg (by omega)]

/-- How many numbers with i digits, zeros in front with them, have the sum s of squares. -/
def sp (b : Nat) : Nat → Nat → Nat
  | 0, s => if s = 0 then 1 else 0
  | i + 1, s => nx (sp b i) b s
theorem sp_le (b : Nat) (hb : 1 ≤ b) : ∀ i s, sp b i s ≤ b ^ i
  | 0, s => by show (if s = 0 then 1 else 0) ≤ 1; split <;> omega
  | i + 1, s => by
    have := nx_le (sp_le b hb i) b s
    rw [Nat.pow_succ, Nat.mul_comm]
    exact this
theorem sp_far (b : Nat) : ∀ i s, i * ((b - 1) * (b - 1)) < s → sp b i s = 0
  | 0, s, h => by show (if s = 0 then 1 else 0) = 0; rw [if_neg (by omega)]
  | i + 1, s, h => sm_none b fun d hd => by
    have h1 : d * d ≤ (b - 1) * (b - 1) := Nat.mul_le_mul (by omega) (by omega)
    rw [Nat.succ_mul] at h
    rw [if_pos (by omega), sp_far b i _ (by omega)]
theorem sp_bd {b i : Nat} (hb : 2 ≤ b) (hb' : b ≤ 10) (hi : i ≤ 12) (s : Nat) : sp b i s ≤ 1000000000000 := by
  have h1 := sp_le b (by omega) i s
  have h2 := Nat.pow_le_pow_left hb' i
  have h3 := Nat.pow_le_pow_right (show 0 < 10 by omega) hi
  have h4 : 10 ^ 12 = 1000000000000 := by decide
  omega

theorem lst_set {N : Nat} {F G : Nat → Nat} {j v : Nat} (hj : j < N) (hv : G j = v) (ho : ∀ i, i < N → i ≠ j → F i = G i) : (lst N F).set j (v : Int) = lst N G := by
  apply List.ext_getElem?
  intro i
  rw [List.getElem?_set]
  by_cases h : j = i
  · subst h
    rw [if_pos rfl, if_pos (by rw [lst_len]; exact hj)]
    simp [lst, hj, hv]
  · rw [if_neg h]
    by_cases hi : i < N
    · simp [lst, hi, ho i hi (fun e => h e.symm)]
    · rw [List.getElem?_eq_none (by rw [lst_len]; omega), List.getElem?_eq_none (by rw [lst_len]; omega)]

theorem lst_rep (N : Nat) : List.replicate N (0 : Int) = lst N (fun _ => 0) := by
  apply List.ext_getElem?
  intro i
  by_cases hi : i < N
  · simp [lst, hi]
  · rw [List.getElem?_eq_none (by simp; omega), List.getElem?_eq_none (by rw [lst_len]; omega)]

/-- How many of the numbers counted are happy, their sums below j. -/
def hc (b k : Nat) : Nat → Nat
  | 0 => 0
  | j + 1 => hc b k j + (if hap b j = true then sp b k j else 0)
theorem hc_le {b k M : Nat} (h : ∀ s, sp b k s ≤ M) : ∀ j, hc b k j ≤ j * M
  | 0 => by show 0 ≤ _; omega
  | j + 1 => by
    have h1 := hc_le h j
    have h2 := h j
    show hc b k j + _ ≤ _
    rw [Nat.succ_mul]
    split <;> omega

theorem qq_le {b i : Nat} (hb' : b ≤ 10) (hi : i ≤ 12) : i * ((b - 1) * (b - 1)) ≤ 972 := by
  have h1 : (b - 1) * (b - 1) ≤ 9 * 9 := Nat.mul_le_mul (by omega) (by omega)
  have := Nat.mul_le_mul hi h1
  omega

end Go.Proofs.Ytnniiobiedfmoaa
