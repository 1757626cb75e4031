/-
  Widths of numbers, and how long their numbers take: plain mathematics.
-/
import Derived.Test.YtamibonkbpppmaaTB
import Derived.Test.YtamibonkbpppmaaD
import Derived.Lib.Slices
namespace Go.Proofs.Ytamibonkbpppmaa
open Go.RowKit
set_option linter.unusedVariables false
set_option linter.unusedSimpArgs false

/-- Widths whose numbers are counted. -/
def okSp (V b : Int) : Bool := decide (2 ≤ b ∧ b ≤ 16) && decide (1 ≤ V ∧ V ≤ 14) && decide ((b - 1) * b ^ (V.toNat - 1) ≤ 20000)

structure Sp (V : Nat) (b : Int) : Prop where
  b2 : 2 ≤ b
  b16 : b ≤ 16
  v1 : 1 ≤ V
  v14 : V ≤ 14
  le : (b - 1) * b ^ (V - 1) ≤ 20000

theorem okSp_sp {V b : Int} (h : okSp V b = true) : ∃ k : Nat, V = (k : Int) ∧ Sp k b := by
  simp only [okSp, Bool.and_eq_true, decide_eq_true_eq] at h
  refine ⟨V.toNat, by omega, ⟨h.1.1.1, h.1.1.2, by omega, by omega, h.2⟩⟩

theorem pw_pos (b : Int) (hb : 2 ≤ b) (n : Nat) : 1 ≤ b ^ n := by
  have : 0 < b ^ n := Int.pow_pos (by omega)
  omega

theorem pw_le16 (b : Int) (hb : 2 ≤ b) (hb' : b ≤ 16) (n : Nat) : b ^ n ≤ 16 ^ n := by
  induction n with
  | zero => simp
  | succ n ih =>
    rw [Int.pow_succ, Int.pow_succ]
    exact Int.mul_le_mul ih hb' (by omega) (by have := pw_pos 16 (by omega) n; omega)
theorem pw_bd (b : Int) (hb : 2 ≤ b) (hb' : b ≤ 16) (n : Nat) (hn : n ≤ 14) : 1 ≤ b ^ n ∧ b ^ n ≤ 72057594037927936 := by
  refine ⟨pw_pos b hb n, Int.le_trans (pw_le16 b hb hb' n) ?_⟩
  have h : (16:Int) ^ n ≤ 16 ^ 14 := by
    have h1 : ∀ k, (16:Int) ^ n ≤ 16 ^ (n + k) := by
      intro k
      induction k with
      | zero => exact Int.le_refl _
      | succ k ih =>
        rw [← Nat.add_assoc, Int.pow_succ]
        have := pw_pos 16 (by omega) (n + k)
        omega
    have := h1 (14 - n)
    rwa [show n + (14 - n) = 14 by omega] at this
  have e : (16:Int) ^ 14 = 72057594037927936 := by decide
  omega

theorem Sp.least {V : Nat} {b : Int} (h : Sp V b) : 1 ≤ b ^ (V - 1) ∧ b ^ (V - 1) ≤ 20000 := by
  have h1 := pw_pos b h.b2 (V - 1)
  refine ⟨h1, ?_⟩
  have h2 : 1 * b ^ (V - 1) ≤ (b - 1) * b ^ (V - 1) := Int.mul_le_mul_of_nonneg_right (by have := h.b2; omega) (by omega)
  have := h.le
  omega
/-- How many numbers of a width there are. -/
def cnN (V : Nat) (b : Int) : Nat := ((b - 1) * b ^ (V - 1)).toNat
theorem Sp.cn {V : Nat} {b : Int} (h : Sp V b) : ((cnN V b : Nat) : Int) = (b - 1) * b ^ (V - 1) ∧ 1 ≤ cnN V b ∧ cnN V b ≤ 20000 := by
  have h1 := h.least
  have h0 : 1 * 1 ≤ (b - 1) * b ^ (V - 1) := Int.mul_le_mul (by have := h.b2; omega) h1.1 (by omega) (by have := h.b2; omega)
  have h2 := h.le
  unfold cnN
  omega

/-- The digits of a number of a width. -/
theorem dgs_Dg (b n : Int) (hb : 2 ≤ b) (hb' : b ≤ 16) (h0 : 0 ≤ n) (h1 : n ≤ 1000000000000) : Dg b (dgs b n) :=
  ⟨hb, hb', dgs_pos b n, dgs_len40 b n hb h0 h1, dgs_all b n hb h0⟩

/-- How many times the i-th number of a width needs. -/
def tmW (V : Nat) (b : Int) (m : Nat) (i : Nat) : Option Nat := rvT b m (dgs b (b ^ (V - 1) + (i : Int)))
def tmZ (V : Nat) (b : Int) (m : Nat) (i : Nat) : Int := match tmW V b m i with
  | some k => (k : Int)
  | none => -1
theorem tmZ_bd (V : Nat) (b : Int) (m i : Nat) : -1 ≤ tmZ V b m i ∧ tmZ V b m i ≤ m := by
  unfold tmZ
  cases h : tmW V b m i with
  | none => simp only; omega
  | some k =>
    have := rvT_le h
    simp only; omega

/-- The number with 1 at all places. -/
def onesN (b : Int) : Nat → Int
  | 0 => 1
  | k + 1 => b * onesN b k + 1
theorem onesN_bd (b : Int) (hb : 2 ≤ b) (k : Nat) : b ^ k ≤ onesN b k ∧ onesN b k ≤ 2 * b ^ k - 1 := by
  induction k with
  | zero => simp [onesN]
  | succ k ih =>
    have h1 : b * b ^ k ≤ b * onesN b k := Int.mul_le_mul_of_nonneg_left ih.1 (by omega)
    have h2 : b * onesN b k ≤ b * (2 * b ^ k - 1) := Int.mul_le_mul_of_nonneg_left ih.2 (by omega)
    have h3 : b * (2 * b ^ k - 1) = 2 * (b * b ^ k) - b := by grind
    rw [Int.pow_succ, Int.mul_comm (b ^ k) b]
    simp only [onesN]
    omega
theorem revD_ones (b : Int) (hb : 2 ≤ b) (k : Nat) : revD b (onesN b k) = List.replicate (k + 1) 1 := by
  induction k with
  | zero => simp only [onesN]; rw [revD_small b 1 (by omega)]; rfl
  | succ k ih =>
    have h1 := onesN_bd b hb k
    have hp := pw_pos b hb k
    have h2 : b * 1 ≤ b * onesN b k := Int.mul_le_mul_of_nonneg_left (by omega) (by omega)
    rw [revD_big b _ hb (by simp only [onesN]; omega)]
    have e1 : onesN b (k + 1) % b = 1 := by
      simp only [onesN]
      rw [Int.add_comm, Int.add_mul_emod_self_left, Int.emod_eq_of_lt (by omega) (by omega)]
    have e2 : onesN b (k + 1) / b = onesN b k := by
      simp only [onesN]
      rw [Int.add_comm, Int.add_mul_ediv_left _ _ (by omega), Int.ediv_eq_zero_of_lt (by omega) (by omega), Int.zero_add]
    rw [e1, e2, ih]
    rfl

theorem ones_pal (b : Int) (hb : 2 ≤ b) (k : Nat) : palB (dgs b (onesN b k)) = true := by
  unfold palB dgs
  rw [revD_ones b hb k]
  simp

/-- Some number of the width needs no time at all. -/
theorem Sp.some0 {V : Nat} {b : Int} (h : Sp V b) (m : Nat) : ∃ i, i < cnN V b ∧ tmZ V b m i = 0 := by
  have h1 := onesN_bd b h.b2 (V - 1)
  have h2 := h.cn
  have h3 := h.least
  have h4 : 1 * b ^ (V - 1) ≤ (b - 1) * b ^ (V - 1) := Int.mul_le_mul_of_nonneg_right (by have := h.b2; omega) (by omega)
  refine ⟨(onesN b (V - 1) - b ^ (V - 1)).toNat, by omega, ?_⟩
  have e : b ^ (V - 1) + (((onesN b (V - 1) - b ^ (V - 1)).toNat : Nat) : Int) = onesN b (V - 1) := by omega
  have hT : tmW V b m (onesN b (V - 1) - b ^ (V - 1)).toNat = some 0 := by
    unfold tmW
    rw [e]
    have hr := rvR_pal (ones_pal b h.b2 (V - 1)) (b := b) m
    unfold rvT
    rw [hr]
    simp [ones_pal b h.b2 (V - 1)]
  unfold tmZ
  rw [hT]
  rfl

/-- The spread over the first n numbers. -/
def ixT (m : Nat) : Option Nat → Nat
  | some k => k
  | none => m + 1
def sprN (V : Nat) (b : Int) (m : Nat) : Nat → List Int
  | 0 => List.replicate (m + 2) 0
  | n + 1 => (sprN V b m n).set (ixT m (tmW V b m n)) ((sprN V b m n).getD (ixT m (tmW V b m n)) 0 + 1)
theorem sprN_len (V : Nat) (b : Int) (m n : Nat) : (sprN V b m n).length = m + 2 := by
  induction n with
  | zero => simp [sprN]
  | succ n ih => simp [sprN, ih]
theorem ixT_lt (V : Nat) (b : Int) (m n : Nat) : ixT m (tmW V b m n) < m + 2 := by
  cases h : tmW V b m n with
  | none => simp [ixT]
  | some k => have := rvT_le h; simp only [ixT]; omega
theorem sprN_bd (V : Nat) (b : Int) (m n : Nat) (j : Nat) : 0 ≤ (sprN V b m n).getD j 0 ∧ (sprN V b m n).getD j 0 ≤ n := by
  induction n generalizing j with
  | zero =>
    simp only [sprN]
    rw [List.getD_eq_getElem?_getD, List.getElem?_replicate]
    split <;> simp
  | succ n ih =>
    simp only [sprN]
    rw [List.getD_eq_getElem?_getD, List.getElem?_set]
    have h1 := ih j
    have h2 := ih (ixT m (tmW V b m n))
    rw [List.getD_eq_getElem?_getD] at h1
    split
    · split
      · simp only [Option.getD_some]; omega
      · simp only [Option.getD_none]; omega
    · omega

/-- The slowest of the first n numbers: its place, and how long it takes. -/
def slwN (V : Nat) (b : Int) (m : Nat) : Nat → Nat × Int
  | 0 => (0, -1)
  | n + 1 => if (slwN V b m n).2 < tmZ V b m n then (n, tmZ V b m n) else slwN V b m n
theorem slwN_spec (V : Nat) (b : Int) (m n : Nat) : (∀ i, i < n → tmZ V b m i ≤ (slwN V b m n).2) ∧ -1 ≤ (slwN V b m n).2 ∧
    ((slwN V b m n).2 = -1 ∨ ((slwN V b m n).1 < n ∧ tmZ V b m (slwN V b m n).1 = (slwN V b m n).2 ∧ ∀ j, j < (slwN V b m n).1 → tmZ V b m j ≠ (slwN V b m n).2)) := by
  induction n with
  | zero => exact ⟨fun i hi => by omega, by simp [slwN], .inl rfl⟩
  | succ n ih =>
    obtain ⟨h1, h2, h3⟩ := ih
    simp only [slwN]
    split
    · next hlt =>
      refine ⟨fun i hi => ?_, (tmZ_bd V b m n).1, .inr ⟨by simp, rfl, fun j hj => ?_⟩⟩
      · by_cases e : i = n
        · rw [e]; exact Int.le_refl _
        · have := h1 i (by omega); simp only; omega
      · have := h1 j hj; simp only; omega
    · next hlt =>
      refine ⟨fun i hi => ?_, h2, ?_⟩
      · by_cases e : i = n
        · rw [e]; omega
        · exact h1 i (by omega)
      · rcases h3 with h3 | ⟨h3, h4, h5⟩
        · exact .inl h3
        · exact .inr ⟨by omega, h4, h5⟩

theorem foldl_max (zs : List Int) (a : Int) : (∀ z ∈ zs, z ≤ zs.foldl max a) ∧ a ≤ zs.foldl max a ∧ (zs.foldl max a = a ∨ zs.foldl max a ∈ zs) := by
  induction zs generalizing a with
  | nil => exact ⟨fun z hz => by simp at hz, Int.le_refl _, .inl rfl⟩
  | cons c t ih =>
    obtain ⟨h1, h2, h3⟩ := ih (max a c)
    simp only [List.foldl_cons]
    refine ⟨fun z hz => ?_, by omega, ?_⟩
    · rcases List.mem_cons.1 hz with rfl | hz
      · omega
      · exact h1 z hz
    · rcases h3 with h3 | h3
      · by_cases e : a ≤ c
        · right; rw [h3, show max a c = c by omega]; simp
        · left; rw [h3]; omega
      · right; simp [h3]

theorem maxOf_is (zs : List Int) (M : Int) (h1 : ∀ z ∈ zs, z ≤ M) (h2 : M ∈ zs) : Lib.maxOf zs = M := by
  unfold Lib.maxOf
  obtain ⟨a1, a2, a3⟩ := foldl_max zs (zs.headD 0)
  have b1 := a1 M h2
  rcases a3 with a3 | a3
  · have : zs.headD 0 ≤ M := by
      cases zs with
      | nil => simp at h2
      | cons c t => exact h1 c (by simp)
    omega
  · have := h1 _ a3
    omega

end Go.Proofs.Ytamibonkbpppmaa
