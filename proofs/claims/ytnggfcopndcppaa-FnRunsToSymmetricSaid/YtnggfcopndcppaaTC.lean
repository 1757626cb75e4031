/-
  Differences of numbers and the same backwards: plain mathematics.
-/
import Derived.Test.YtnggfcopndcppaaTA
namespace Go.Proofs.Ytnggfcopndcppaa
set_option linter.unusedVariables false
set_option linter.unusedSimpArgs false

/-- A list comes before another one of the same length. -/
def ltL : List Int → List Int → Bool
  | x :: xs, y :: ys => if x = y then ltL xs ys else decide (x < y)
  | _, _ => false

/-- Sums of places of a difference. -/
def InD (b : Int) (ss : List Int) : Prop := ∀ s ∈ ss, 1 - b ≤ s ∧ s ≤ b - 1

theorem divD (b s c : Int) (hb : 2 ≤ b) (h1 : 1 - b ≤ s) (h2 : s ≤ b - 1) (h3 : -1 ≤ c) (h4 : c ≤ 0) :
    (s + c < 0 → (s + c) / b = -1 ∧ (s + c) % b = s + c + b) ∧ (0 ≤ s + c → (s + c) / b = 0 ∧ (s + c) % b = s + c) := by
  constructor
  · intro h
    have h5 : (s + c) / b = -1 := by
      have a1 : -1 ≤ (s + c) / b := by rw [Int.le_ediv_iff_mul_le (by omega)]; omega
      have a2 : (s + c) / b < 0 := Int.ediv_lt_of_lt_mul (by omega) (by omega)
      omega
    refine ⟨h5, ?_⟩
    rw [Int.emod_def, h5]; omega
  · intro h
    exact ⟨Int.ediv_eq_zero_of_lt h (by omega), Int.emod_eq_of_lt h (by omega)⟩

theorem coD_bd (b : Int) (hb : 2 ≤ b) (ss : List Int) (c : Int) (h : InD b ss) (h3 : -1 ≤ c) (h4 : c ≤ 0) : -1 ≤ coA b ss c ∧ coA b ss c ≤ 0 := by
  induction ss generalizing c with
  | nil => exact ⟨h3, h4⟩
  | cons a t ih =>
    have h1 := h a (by simp)
    have h2 := divD b a c hb h1.1 h1.2 h3 h4
    refine ih _ (fun s hs => h s (by simp [hs])) ?_ ?_
    · by_cases hn : a + c < 0
      · rw [(h2.1 hn).1]; omega
      · rw [(h2.2 (by omega)).1]; omega
    · by_cases hn : a + c < 0
      · rw [(h2.1 hn).1]; omega
      · rw [(h2.2 (by omega)).1]; omega

theorem zip_rev_in (b f : Int) (A B : List Int) (hb : 2 ≤ b) (hf : f = 1 ∨ f = -1) (hA : ∀ x ∈ A, 0 ≤ x ∧ x ≤ b - 1) (hB : ∀ x ∈ B, 0 ≤ x ∧ x ≤ b - 1) : InD b (List.zipWith (fun x y => f * x + (-f) * y) A B) := by
  intro s hs
  obtain ⟨k, hk, rfl⟩ := List.getElem_of_mem hs
  rw [List.length_zipWith] at hk
  rw [List.getElem_zipWith]
  have h1 := hA _ (List.getElem_mem (show k < A.length by omega))
  have h2 := hB _ (List.getElem_mem (show k < B.length by omega))
  rcases hf with rfl | rfl <;> omega

theorem less_co (b : Int) (hb : 2 ≤ b) : ∀ (A B : List Int), A.length = B.length → (∀ x ∈ A, 0 ≤ x ∧ x ≤ b - 1) → (∀ x ∈ B, 0 ≤ x ∧ x ≤ b - 1) →
    (coA b (List.zipWith (fun x y => 1 * x + (-1) * y) A.reverse B.reverse) 0 < 0 ↔ ltL A B = true) := by
  intro A
  induction A with
  | nil => intro B hl _ _; cases B with
    | nil => simp [coA, ltL]
    | cons y t => simp at hl
  | cons x s ih =>
    intro B hl hA hB
    cases B with
    | nil => simp at hl
    | cons y t =>
      have hl' : s.length = t.length := by simpa using hl
      have hA' : ∀ x ∈ s, 0 ≤ x ∧ x ≤ b - 1 := fun q hq => hA q (by simp [hq])
      have hB' : ∀ x ∈ t, 0 ≤ x ∧ x ≤ b - 1 := fun q hq => hB q (by simp [hq])
      have hI := ih t hl' hA' hB'
      have hx := hA x (by simp)
      have hy := hB y (by simp)
      have hin : InD b (List.zipWith (fun x y => 1 * x + (-1) * y) s.reverse t.reverse) := zip_rev_in b 1 _ _ hb (.inl rfl) (fun q hq => hA' q (List.mem_reverse.1 hq)) (fun q hq => hB' q (List.mem_reverse.1 hq))
      have hc := coD_bd b hb _ 0 hin (by omega) (by omega)
      rw [List.reverse_cons, List.reverse_cons, List.zipWith_append (by simp [hl'])]
      simp only [List.zipWith_cons_cons, List.zipWith_nil_left]
      rw [coA_snoc]
      generalize coA b (List.zipWith (fun x y => 1 * x + (-1) * y) s.reverse t.reverse) 0 = c at hI hc ⊢
      have hd := divD b (1 * x + -1 * y) c hb (by omega) (by omega) hc.1 hc.2
      unfold ltL
      by_cases e : x = y
      · rw [if_pos e, ← hI]
        by_cases hn : 1 * x + -1 * y + c < 0
        · rw [(hd.1 hn).1]; omega
        · rw [(hd.2 (by omega)).1]; omega
      · rw [if_neg e, decide_eq_true_iff]
        by_cases hn : 1 * x + -1 * y + c < 0
        · rw [(hd.1 hn).1]; omega
        · rw [(hd.2 (by omega)).1]; omega

theorem co_less (b : Int) (hb : 2 ≤ b) (xs : List Int) (hx : ∀ x ∈ xs, 0 ≤ x ∧ x ≤ b - 1) : coA b (smA 1 (-1) xs) 0 < 0 ↔ ltL xs xs.reverse = true := by
  have := less_co b hb xs xs.reverse (by simp) hx (fun q hq => hx q (List.mem_reverse.1 hq))
  rw [List.reverse_reverse] at this
  exact this

/-- The sums of places that the difference has. -/
def sdA (xs : List Int) : List Int := if ltL xs xs.reverse = true then smA (-1) 1 xs else smA 1 (-1) xs
theorem sdA_len (xs : List Int) : (sdA xs).length = xs.length := by unfold sdA; split <;> exact smA_len _ _ _
theorem smD_in (b : Int) (hb : 2 ≤ b) (xs : List Int) (f g : Int) (hfg : (f = 1 ∧ g = -1) ∨ (f = -1 ∧ g = 1)) (hx : ∀ x ∈ xs, 0 ≤ x ∧ x ≤ b - 1) : InD b (smA f g xs) := by
  rcases hfg with ⟨rfl, rfl⟩ | ⟨rfl, rfl⟩
  · exact zip_rev_in b 1 _ _ hb (.inl rfl) (fun q hq => hx q (List.mem_reverse.1 hq)) hx
  · exact zip_rev_in b (-1) _ _ hb (.inr rfl) (fun q hq => hx q (List.mem_reverse.1 hq)) hx

/-- How many zeros stand in front of a last digit. -/
def lz : List Int → Nat
  | x :: y :: t => if x = 0 then lz (y :: t) + 1 else 0
  | _ => 0
theorem lz_lt (xs : List Int) (h : 1 ≤ xs.length) : lz xs < xs.length := by
  induction xs with
  | nil => simp at h
  | cons x t ih =>
    cases t with
    | nil => simp [lz]
    | cons y u =>
      unfold lz
      split
      · have := ih (by simp); simp at this ⊢; omega
      · simp
/-- Where the count of zeros goes on, and where it ends. -/
theorem lz_drop (xs : List Int) (k : Nat) (hk : k + 1 < xs.length) (h0 : xs[k]'(by omega) = 0) : lz (xs.drop k) = lz (xs.drop (k + 1)) + 1 := by
  rw [List.drop_eq_getElem_cons (show k < xs.length by omega), List.drop_eq_getElem_cons hk]
  rw [lz, if_pos h0]
theorem lz_end (xs : List Int) (k : Nat) (hk : k < xs.length) (h0 : xs.length ≤ k + 1 ∨ xs[k] ≠ 0) : lz (xs.drop k) = 0 := by
  rw [List.drop_eq_getElem_cons hk]
  by_cases h : k + 1 < xs.length
  · rw [List.drop_eq_getElem_cons h, lz, if_neg (by omega)]
  · rw [List.drop_eq_nil_iff.2 (by omega)]; rfl

/-- The digits of the difference. -/
def rvD (b : Int) (xs : List Int) : List Int := (dgA b (sdA xs) 0).reverse.drop (lz (dgA b (sdA xs) 0).reverse)

end Go.Proofs.Ytnggfcopndcppaa
