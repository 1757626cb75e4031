/-
  Words of parities and the numbers that they tell; fractions of words: plain mathematics.
-/
import Derived.Test.YtbgnieajeipllaaYA
namespace Go.Proofs.Ytbgnieajeipllaa
open Go.RowKit
set_option linter.unusedVariables false
set_option linter.unusedSimpArgs false

/-- The first k numbers behind short steps, however great. -/
def shL : Nat → Int → List Int
  | 0, _ => []
  | k + 1, n => n :: shL k (sho n)
/-- 3 to the power of the number of odd ones among them. -/
def p3 : Nat → Int → Int
  | 0, _ => 1
  | k + 1, n => (if n % 2 = 0 then 1 else 3) * p3 k (sho n)

theorem shN_more : ∀ (k : Nat) (n : Int), shN (k + 1) n = sho (shN k n)
  | 0, n => rfl
  | k + 1, n => shN_more k (sho n)
theorem shL_more : ∀ (k : Nat) (n : Int), shL (k + 1) n = shL k n ++ [shN k n]
  | 0, n => rfl
  | k + 1, n => by
    show n :: shL (k + 1) (sho n) = _
    rw [shL_more k (sho n)]; rfl
theorem p3_more : ∀ (k : Nat) (n : Int), p3 (k + 1) n = p3 k n * (if shN k n % 2 = 0 then 1 else 3)
  | 0, n => by
    show (if n % 2 = 0 then (1 : Int) else 3) * 1 = 1 * _
    rw [Int.mul_one, Int.one_mul]; rfl
  | k + 1, n => by
    show (if n % 2 = 0 then 1 else 3) * p3 (k + 1) (sho n) = _
    rw [p3_more k (sho n), ← Int.mul_assoc]; rfl
theorem shL_len : ∀ (k : Nat) (n : Int), (shL k n).length = k
  | 0, n => rfl
  | k + 1, n => by simp [shL, shL_len k]

theorem p3_odd : ∀ (k : Nat) (n : Int), p3 k n % 2 = 1
  | 0, n => by simp [p3]
  | k + 1, n => by
    have := p3_odd k (sho n)
    unfold p3
    split <;> omega
theorem p3_bd : ∀ (k : Nat) (n : Int), 1 ≤ p3 k n ∧ p3 k n ≤ 3 ^ k
  | 0, n => by simp [p3]
  | k + 1, n => by
    have := p3_bd k (sho n)
    rw [Int.pow_succ]
    unfold p3
    split <;> omega

theorem sho_shift (n q : Int) : sho (n + 2 * q) = sho n + (if n % 2 = 0 then 1 else 3) * q ∧ (n + 2 * q) % 2 = n % 2 := by
  unfold sho
  by_cases h : n % 2 = 0
  · rw [if_pos h, if_pos h, if_pos (by omega)]; omega
  · rw [if_neg h, if_neg h, if_neg (by omega)]; omega

/-- Numbers that leave the same remainder go the same way; what is behind them grows by threes. -/
theorem shift : ∀ (k : Nat) (n q : Int), par (shL k (n + 2 ^ k * q)) = par (shL k n) ∧ shN k (n + 2 ^ k * q) = shN k n + p3 k n * q ∧ p3 k (n + 2 ^ k * q) = p3 k n
  | 0, n, q => by simp [shL, shN, p3]
  | k + 1, n, q => by
    have h1 : n + 2 ^ (k + 1) * q = n + 2 * (2 ^ k * q) := by rw [Int.pow_succ]; grind
    obtain ⟨h2, h3⟩ := sho_shift n (2 ^ k * q)
    have h4 : sho n + (if n % 2 = 0 then 1 else 3) * (2 ^ k * q) = sho n + 2 ^ k * ((if n % 2 = 0 then 1 else 3) * q) := by grind
    rw [h4] at h2
    obtain ⟨i1, i2, i3⟩ := shift k (sho n) ((if n % 2 = 0 then 1 else 3) * q)
    rw [h1]
    refine ⟨?_, ?_, ?_⟩
    · show (n + 2 * (2 ^ k * q)) % 2 :: par (shL k (sho (n + 2 * (2 ^ k * q)))) = n % 2 :: par (shL k (sho n))
      rw [h2, h3, i1]
    · show shN k (sho (n + 2 * (2 ^ k * q))) = shN k (sho n) + (if n % 2 = 0 then 1 else 3) * p3 k (sho n) * q
      rw [h2, i2]; grind
    · show (if (n + 2 * (2 ^ k * q)) % 2 = 0 then 1 else 3) * p3 k (sho (n + 2 * (2 ^ k * q))) = (if n % 2 = 0 then 1 else 3) * p3 k (sho n)
      rw [h2, h3, i3]

theorem shift1 (k : Nat) (n : Int) : par (shL k (n + 2 ^ k)) = par (shL k n) ∧ shN k (n + 2 ^ k) = shN k n + p3 k n ∧ p3 k (n + 2 ^ k) = p3 k n := by
  have := shift k n 1
  rwa [Int.mul_one, Int.mul_one] at this

theorem shN_grow : ∀ (k : Nat) (n : Int), 1 ≤ n → 1 ≤ shN k n ∧ 2 ^ k * (shN k n + 1) ≤ 3 ^ k * (n + 1)
  | 0, n, h => by simp [shN]; exact h
  | k + 1, n, h => by
    have h1 : 1 ≤ sho n ∧ 2 * (sho n + 1) ≤ 3 * (n + 1) := by
      unfold sho; split <;> omega
    obtain ⟨i1, i2⟩ := shN_grow k (sho n) h1.1
    refine ⟨i1, ?_⟩
    show 2 ^ (k + 1) * (shN k (sho n) + 1) ≤ _
    have h3 : (3 : Int) ^ k * (2 * (sho n + 1)) ≤ 3 ^ k * (3 * (n + 1)) := Int.mul_le_mul_of_nonneg_left h1.2 (Int.le_of_lt (Int.pow_pos (by omega)))
    rw [Int.pow_succ, Int.pow_succ]
    have e1 : (2 : Int) ^ k * 2 * (shN k (sho n) + 1) = 2 * (2 ^ k * (shN k (sho n) + 1)) := by grind
    have e2 : (3 : Int) ^ k * 3 * (n + 1) = 3 ^ k * (3 * (n + 1)) := by grind
    have e3 : (3 : Int) ^ k * (2 * (sho n + 1)) = 2 * (3 ^ k * (sho n + 1)) := by grind
    rw [e1, e2]
    omega

theorem p32 : ∀ k : Nat, k ≤ 21 → (3 : Int) ^ k ≤ 5000 * 2 ^ k ∧ (2 : Int) ^ k ≤ 2097152 ∧ (1 : Int) ≤ 2 ^ k ∧ (3 : Int) ^ k ≤ 10460353203 := by
  have h : (List.range 22).all (fun k => decide ((3 : Int) ^ k ≤ 5000 * 2 ^ k ∧ (2 : Int) ^ k ≤ 2097152 ∧ (1 : Int) ≤ 2 ^ k ∧ (3 : Int) ^ k ≤ 10460353203)) = true := by decide +kernel
  intro k hk
  have := List.all_eq_true.1 h k (List.mem_range.2 (by omega))
  simpa using this
theorem p2_20 : ∀ k : Nat, k ≤ 20 → (2 : Int) ^ k ≤ 1048576 ∧ (1 : Int) ≤ 2 ^ k := by
  have h : (List.range 21).all (fun k => decide ((2 : Int) ^ k ≤ 1048576 ∧ (1 : Int) ≤ 2 ^ k)) = true := by decide +kernel
  intro k hk
  have := List.all_eq_true.1 h k (List.mem_range.2 (by omega))
  simpa using this

theorem shN_bd {k : Nat} {n : Int} (hk : k ≤ 21) (h : 1 ≤ n) (h2 : n ≤ 1048576) : 1 ≤ shN k n ∧ shN k n ≤ 5242885000 := by
  obtain ⟨a, b⟩ := shN_grow k n h
  obtain ⟨c, _, e, _⟩ := p32 k hk
  refine ⟨a, ?_⟩
  have h3 : (3 : Int) ^ k * (n + 1) ≤ (5000 * 2 ^ k) * 1048577 := Int.mul_le_mul c (by omega) (by omega) (by omega)
  have h4 : (2 : Int) ^ k * (shN k n + 1) ≤ 2 ^ k * 5242885000 := by
    have : (5000 * (2:Int) ^ k) * 1048577 = 2 ^ k * 5242885000 := by grind
    omega
  have h5 : shN k n + 1 ≤ 5242885000 := Int.le_of_mul_le_mul_left h4 (by omega)
  omega

theorem shs_all {n : Int} (h : 1 ≤ n) (h2 : n ≤ 1048576) : ∀ k : Nat, k ≤ 21 → shs k n = some (shL k n)
  | 0, _ => rfl
  | k + 1, hk => by
    have := shN_bd (k := k) (by omega) h h2
    rw [shs_more, if_pos ⟨this.1, by omega⟩, shs_all h h2 k (by omega), shL_more]; rfl

/-- The letters of remainders by two. -/
def let1 (x : Int) : UInt8 := if x % 2 = 0 then 48 else 49
def lts (l : List Int) : List UInt8 := l.map let1
theorem lts_par (l : List Int) : lts (par l) = lts l := by
  induction l with
  | nil => rfl
  | cons a t ih =>
    show let1 (a % 2) :: lts (par t) = let1 a :: lts t
    rw [ih, show let1 (a % 2) = let1 a by unfold let1; rw [show a % 2 % 2 = a % 2 by omega]]
theorem lts_len (l : List Int) : (lts l).length = l.length := by simp [lts]
theorem lts_snoc (l : List Int) (x : Int) : lts (l ++ [x]) = lts l ++ [let1 x] := by simp [lts]
theorem lts_eq {a b : List Int} (h : par a = par b) : lts a = lts b := by rw [← lts_par a, ← lts_par b, h]

/-- The number of a word: letter by letter the one of two numbers with the word so far whose next letter is right. -/
def nw : List UInt8 → Nat → Int → Int
  | [], _, n => n
  | c :: cs, i, n => nw cs (i + 1) (if let1 (shN i n) = c then n else n + 2 ^ i)

def isL (c : UInt8) : Bool := decide (c = 48) || decide (c = 49)

theorem nw_cons (c : UInt8) (cs : List UInt8) (i : Nat) (n : Int) : nw (c :: cs) i n = nw cs (i + 1) (if let1 (shN i n) = c then n else n + 2 ^ i) := rfl

theorem let1_odd {x : Int} (h : x % 2 = 1) : let1 x = 49 := by unfold let1; rw [if_neg (by omega)]
theorem let1_even {x : Int} (h : x % 2 = 0) : let1 x = 48 := by unfold let1; rw [if_pos h]
theorem let1_or (x : Int) : let1 x = 48 ∨ let1 x = 49 := by unfold let1; split <;> simp
theorem let1_add {x p : Int} (hp : p % 2 = 1) {c : UInt8} (hc : isL c = true) (h : ¬ let1 x = c) : let1 (x + p) = c := by
  have hc2 : c = 48 ∨ c = 49 := by simpa [isL] using hc
  unfold let1 at h ⊢
  by_cases hx : x % 2 = 0
  · rw [if_pos hx] at h
    rw [if_neg (by omega)]
    rcases hc2 with rfl | rfl
    · exact absurd rfl h
    · rfl
  · rw [if_neg hx] at h
    rw [if_pos (by omega)]
    rcases hc2 with rfl | rfl
    · rfl
    · exact absurd rfl h

/-- One letter more. -/
theorem word_yes {i : Nat} {n : Int} {u : List UInt8} {c : UInt8} (h : lts (shL i n) = u) (hc : let1 (shN i n) = c) : lts (shL (i + 1) n) = u ++ [c] := by
  rw [shL_more, lts_snoc, h, hc]
theorem word_no {i : Nat} {n : Int} {u : List UInt8} {c : UInt8} (h : lts (shL i n) = u) (hc : ¬ let1 (shN i n) = c) : lts (shL (i + 1) n) ≠ u ++ [c] := by
  rw [shL_more, lts_snoc, h]
  intro e
  have := List.append_cancel_left e
  simp at this
  exact hc this
theorem word_next {i : Nat} {n : Int} {u : List UInt8} {c : UInt8} (h : lts (shL i n) = u) (hl : isL c = true) (hc : ¬ let1 (shN i n) = c) : lts (shL (i + 1) (n + 2 ^ i)) = u ++ [c] := by
  obtain ⟨a, b, _⟩ := shift1 i n
  rw [shL_more, lts_snoc, lts_eq a, h, b, let1_add (p3_odd i n) hl hc]

/-! Fractions of words. -/
def ones (cs : List UInt8) : Nat := cs.count 49
theorem ones_cons (c : UInt8) (cs : List UInt8) : ones (c :: cs) = ones cs + (if c = 49 then 1 else 0) := by
  unfold ones
  rw [List.count_cons]
  by_cases h : c = 49 <;> simp [h]
theorem ones_le (cs : List UInt8) : ones cs ≤ cs.length := List.count_le_length
def cS : List UInt8 → Nat → Int → Int
  | [], _, s => s
  | c :: cs, i, s => cS cs (i + 1) (if c = 49 then 3 * s + 2 ^ i else s)
def cM : List UInt8 → Nat → Int
  | [], _ => 0
  | c :: cs, i => (if c = 49 then 2 ^ i * 3 ^ (ones cs) else 0) + cM cs (i + 1)
theorem cS_cM : ∀ (cs : List UInt8) (i : Nat) (s : Int), cS cs i s = s * 3 ^ (ones cs) + cM cs i
  | [], i, s => by simp [cS, cM, ones]
  | c :: cs, i, s => by
    rw [cS, cM, cS_cM cs, ones_cons]
    by_cases h : c = 49
    · simp only [h, if_true, Int.pow_succ]; grind
    · simp only [h, if_false, Nat.add_zero]; grind
theorem cM_bd : ∀ (cs : List UInt8) (i : Nat), cs.length + i ≤ 20 → 0 ≤ cM cs i ∧ cM cs i ≤ cs.length * 3656158440062976
  | [], i, h => by simp [cM]
  | c :: cs, i, h => by
    simp only [List.length_cons] at h
    have h1 := cM_bd cs (i + 1) (by omega)
    obtain ⟨a, b⟩ := p2_20 i (by omega)
    have h2 := ones_le cs
    have h3 : (1:Int) ≤ 3 ^ (ones cs) ∧ (3:Int) ^ (ones cs) ≤ 3486784401 := by
      have : ∀ k : Nat, k ≤ 20 → (1:Int) ≤ 3 ^ k ∧ (3:Int) ^ k ≤ 3486784401 := by
        have h : (List.range 21).all (fun k => decide ((1:Int) ≤ 3 ^ k ∧ (3:Int) ^ k ≤ 3486784401)) = true := by decide +kernel
        intro k hk
        have := List.all_eq_true.1 h k (List.mem_range.2 (by omega))
        simpa using this
      exact this _ (by omega)
    have h4 : (2:Int) ^ i * 3 ^ (ones cs) ≤ 1048576 * 3486784401 := Int.mul_le_mul a h3.2 (by omega) (by omega)
    have h5 : (0:Int) ≤ 2 ^ i * 3 ^ (ones cs) := Int.mul_nonneg (by omega) (by omega)
    unfold cM
    simp only [List.length_cons]
    push_cast
    split <;> omega

theorem two_three (k j : Nat) (hk : 0 < k) : (2:Int) ^ k - 3 ^ j ≠ 0 := by
  have h : ∀ j : Nat, (3:Int) ^ j % 2 = 1 := by
    intro j
    induction j with
    | zero => rfl
    | succ j ih => rw [Int.pow_succ]; omega
  have h2 := h j
  obtain ⟨m, rfl⟩ : ∃ m, k = m + 1 := ⟨k - 1, by omega⟩
  rw [Int.pow_succ]
  omega

end Go.Proofs.Ytbgnieajeipllaa
