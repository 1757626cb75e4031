/-
  The next palindrome: the program's way and the model's way are one.
-/
import Derived.Test.YtjclbfjjakfjiaaY
namespace Go.Proofs.Ytjclbfjjakfjiaa
set_option linter.unusedVariables false
set_option linter.unusedSimpArgs false

theorem incR_all (b : Int) : ∀ (X Y : List Int), (∀ x ∈ X, x = b - 1) → incR b (X ++ Y) = List.replicate X.length 0 ++ incR b Y := by
  intro X
  induction X with
  | nil => intro Y _; rfl
  | cons x X ih =>
    intro Y h
    rw [List.cons_append, incR, if_pos (h x (by simp)), ih Y (fun z hz => h z (by simp [hz]))]
    rfl

theorem incR_some (b : Int) : ∀ (X Y : List Int), (∃ x ∈ X, x ≠ b - 1) → incR b (X ++ Y) = incR b X ++ Y ∧ (incR b X).length = X.length := by
  intro X
  induction X with
  | nil => intro Y h; obtain ⟨x, hx, _⟩ := h; simp at hx
  | cons x X ih =>
    intro Y h
    by_cases hx : x = b - 1
    · have h2 : ∃ y ∈ X, y ≠ b - 1 := by
        obtain ⟨y, hy, hn⟩ := h
        rcases List.mem_cons.1 hy with rfl | hy
        · exact absurd hx hn
        · exact ⟨y, hy, hn⟩
      obtain ⟨i1, i2⟩ := ih Y h2
      rw [List.cons_append, incR, incR, if_pos hx, if_pos hx, i1]
      exact ⟨rfl, by simp [i2]⟩
    · rw [List.cons_append, incR, incR, if_neg hx, if_neg hx]
      exact ⟨rfl, rfl⟩

theorem all_or (b : Int) (X : List Int) : (∀ x ∈ X, x = b - 1) ∨ ∃ x ∈ X, x ≠ b - 1 := by
  by_cases h : ∃ x ∈ X, x ≠ b - 1
  · exact Or.inr h
  · exact Or.inl fun x hx => by
      by_cases e : x = b - 1
      · exact e
      · exact absurd ⟨x, hx, e⟩ h

theorem rev_drop (b : Int) (hb : 2 ≤ b) : ∀ (j : Nat) (n : Int), 0 ≤ n → j < (revD b n).length → revD b (n / b ^ j) = (revD b n).drop j ∧ 0 ≤ n / b ^ j := by
  intro j
  induction j with
  | zero => intro n h0 _; simpa using h0
  | succ j ih =>
    intro n h0 hj
    obtain ⟨i1, i2⟩ := ih n h0 (by omega)
    have hq : n / b ^ (j + 1) = n / b ^ j / b := by
      rw [Int.pow_succ, Int.ediv_ediv_of_nonneg (Int.pow_nonneg (by omega))]
    have hl : 2 ≤ ((revD b n).drop j).length := by rw [List.length_drop]; omega
    have hbig : b ≤ n / b ^ j := by
      by_cases h : b ≤ n / b ^ j
      · exact h
      · rw [← i1, revD_small _ _ h] at hl
        simp at hl
    have h3 := revD_big b _ hb hbig
    rw [i1] at h3
    refine ⟨?_, ?_⟩
    · rw [hq]
      have := congrArg (List.drop 1) h3
      rw [List.drop_drop] at this
      simpa using this.symm
    · rw [hq]
      exact (div_lt b _ hb hbig).1

theorem mir_app (A C : List Int) (h1 : C.length ≤ A.length) (h2 : A.length ≤ C.length + 1) : mir (A ++ C) = A ++ (A.take C.length).reverse := by
  unfold mir
  have e1 : (A ++ C).length - (A ++ C).length / 2 = A.length := by rw [List.length_append]; omega
  have e2 : (A ++ C).length / 2 = C.length := by rw [List.length_append]; omega
  rw [e1, e2, List.take_left', List.take_append_of_le_length h1]
  rfl

theorem cmpI_lt {x y : Int} : cmpI x y < 0 ↔ x < y := by
  unfold cmpI
  split
  · simp; omega
  · split <;> simp <;> omega

theorem cmpI_eq {x y : Int} : cmpI x y = 0 ↔ x = y := by
  unfold cmpI
  split
  · simp; omega
  · split <;> simp <;> omega

theorem val_cmp (b : Int) (hb : 2 ≤ b) : ∀ (xs ys : List Int) (a : Int), xs.length = ys.length → (∀ x ∈ xs, 0 ≤ x ∧ x ≤ b - 1) → (∀ y ∈ ys, 0 ≤ y ∧ y ≤ b - 1) → 0 ≤ a → (cmpL xs ys < 0 ↔ val b xs a < val b ys a) := by
  intro xs
  induction xs with
  | nil => intro ys a hl _ _ _; have : ys = [] := List.eq_nil_of_length_eq_zero hl.symm
           subst this; simp [cmpL, val]
  | cons x xs ih =>
    intro ys a hl hx hy ha
    cases ys with
    | nil => simp at hl
    | cons y ys =>
      have hl' : xs.length = ys.length := by simpa using hl
      have h1 := hx x (by simp)
      have h2 := hy y (by simp)
      have hx' : ∀ z ∈ xs, 0 ≤ z ∧ z ≤ b - 1 := fun z hz => hx z (by simp [hz])
      have hy' : ∀ z ∈ ys, 0 ≤ z ∧ z ≤ b - 1 := fun z hz => hy z (by simp [hz])
      have h4 : 0 ≤ a * b := Int.mul_nonneg ha (by omega)
      rw [cmpL, val, val]
      by_cases e : cmpI x y = 0
      · rw [if_pos e]
        have := cmpI_eq.1 e
        subst this
        exact ih ys _ hl' hx' hy' (by omega)
      · rw [if_neg e, cmpI_lt]
        constructor
        · intro h
          exact val_lt b hb xs ys _ _ hl' hx' hy' (by omega) (by omega)
        · intro h
          by_cases hlt : x < y
          · exact hlt
          · have hne : x ≠ y := fun hc => e (cmpI_eq.2 hc)
            have := val_lt b hb ys xs (a * b + y) (a * b + x) hl'.symm hy' hx' (by omega) (by omega)
            omega

theorem cmpL_app (p xs ys : List Int) : cmpL (p ++ xs) (p ++ ys) = cmpL xs ys := by
  induction p with
  | nil => rfl
  | cons d p ih => rw [List.cons_append, List.cons_append, cmpL, if_pos (cmpI_eq.2 rfl), ih]

theorem top_ge (b : Int) : ∀ (xs ys : List Int), xs.length = ys.length → (∀ x ∈ xs, x = b - 1) → (∀ y ∈ ys, y ≤ b - 1) → ¬ cmpL xs ys < 0 := by
  intro xs
  induction xs with
  | nil => intro ys hl _ _; have : ys = [] := List.eq_nil_of_length_eq_zero hl.symm
           subst this; simp [cmpL]
  | cons x xs ih =>
    intro ys hl hx hy
    cases ys with
    | nil => simp at hl
    | cons y ys =>
      have h1 := hx x (by simp)
      have h2 := hy y (by simp)
      rw [cmpL]
      split
      · exact ih ys (by simpa using hl) (fun z hz => hx z (by simp [hz])) (fun z hz => hy z (by simp [hz]))
      · rw [cmpI_lt]; omega

theorem zero_le (xs ys : List Int) (hl : xs.length = ys.length) (hx : ∀ x ∈ xs, 0 ≤ x) (hy : ∀ y ∈ ys, y = 0) : ¬ cmpL xs ys < 0 := by
  induction xs generalizing ys with
  | nil => have : ys = [] := List.eq_nil_of_length_eq_zero hl.symm
           subst this; simp [cmpL]
  | cons x xs ih =>
    cases ys with
    | nil => simp at hl
    | cons y ys =>
      have h1 := hx x (by simp)
      have h2 := hy y (by simp)
      rw [cmpL]
      split
      · exact ih ys (by simpa using hl) (fun z hz => hx z (by simp [hz])) (fun z hz => hy z (by simp [hz]))
      · rw [cmpI_lt]; omega

/-- What NextPalindrome answers for a number and a base. -/
def RNextPalindrome (b n : Int) : Option Int :=
  let L := dgs b (n + 1)
  let M := mir L
  if cmpL M L < 0 then numF b (mir (raiseAt b ((M.length - 1) / 2) M)) 0 else numF b M 0

/-- The first half of the digits, as a number. -/
def fstH (b n : Int) : Int := n / b ^ ((dgs b n).length / 2)
/-- One 1, zeros and one 1. -/
def ends (k : Nat) : List Int := ((List.replicate (k + 1) (0 : Int)).set 0 1).set k 1

theorem ends_eq (k : Nat) : ends (k + 1) = 1 :: (List.replicate k 0 ++ [1]) := by
  unfold ends
  rw [List.replicate_succ, List.set_cons_zero, List.set_cons_succ, List.replicate_succ', List.set_append_right _ _ (by simp)]
  simp

/-- What the halves of a number's digits are. -/
structure Halves (b n : Int) (A C : List Int) : Prop where
  eq : dgs b n = A ++ C
  alen : A.length = ((dgs b n).length + 1) / 2
  clen : C.length = (dgs b n).length / 2
  fst : dgs b (fstH b n) = A
  pos : 0 ≤ fstH b n

theorem halves (b n : Int) (hb : 2 ≤ b) (h0 : 0 ≤ n) : ∃ A C, Halves b n A C := by
  have hl := dgs_len b n
  have hp := dgs_pos b n
  obtain ⟨i1, i2⟩ := rev_drop b hb ((dgs b n).length / 2) n h0 (by omega)
  refine ⟨((revD b n).drop ((dgs b n).length / 2)).reverse, ((revD b n).take ((dgs b n).length / 2)).reverse, ?_, ?_, ?_, ?_, i2⟩
  · rw [← List.reverse_append, List.take_append_drop]
    rfl
  · rw [List.length_reverse, List.length_drop]; omega
  · rw [List.length_reverse, List.length_take]; omega
  · rw [← i1]; rfl

theorem Halves.take {b n : Int} {A C : List Int} (h : Halves b n A C) : (dgs b n).take (((dgs b n).length + 1) / 2) = A := by
  rw [← h.alen, h.eq, List.take_left']
  rfl

theorem Halves.drop {b n : Int} {A C : List Int} (h : Halves b n A C) : (dgs b n).drop (((dgs b n).length + 1) / 2) = C := by
  rw [← h.alen, h.eq, List.drop_left']
  rfl

theorem fst_val (b n : Int) (hb : 2 ≤ b) (h0 : 0 ≤ n) : val b ((dgs b n).take (((dgs b n).length + 1) / 2)) 0 = fstH b n := by
  obtain ⟨A, C, h⟩ := halves b n hb h0
  rw [h.take, ← h.fst]
  exact val_dgs b hb _ _ (Nat.le_refl _) h.pos

theorem dgs_inc (b n : Int) (hb : 2 ≤ b) (h0 : 0 ≤ n) : dgs b (n + 1) = (incR b (dgs b n).reverse).reverse := by
  unfold dgs
  rw [revD_inc b hb _ n (Nat.le_refl _) h0, List.reverse_reverse]

/-- One more, by halves. -/
theorem inc_halves (b n : Int) (hb : 2 ≤ b) (h0 : 0 ≤ n) (A C : List Int) (h : Halves b n A C) :
    ((∃ x ∈ C, x ≠ b - 1) ∧ ∃ C', dgs b (n + 1) = A ++ C' ∧ C'.length = C.length) ∨
    ((∀ x ∈ C, x = b - 1) ∧ (∃ x ∈ A, x ≠ b - 1) ∧ (dgs b (fstH b n + 1)).length = A.length ∧ dgs b (n + 1) = dgs b (fstH b n + 1) ++ List.replicate C.length 0) ∨
    ((∀ x ∈ C, x = b - 1) ∧ (∀ x ∈ A, x = b - 1) ∧ (dgs b (fstH b n + 1)).length = A.length + 1 ∧ dgs b (n + 1) = 1 :: List.replicate (dgs b n).length 0) := by
  have hi := dgs_inc b n hb h0
  have hf := dgs_inc b (fstH b n) hb h.pos
  rw [h.fst] at hf
  rw [h.eq, List.reverse_append] at hi
  rcases all_or b C with hc | hc
  · rw [incR_all b C.reverse A.reverse (fun x hx => hc x (List.mem_reverse.1 hx))] at hi
    rcases all_or b A with ha | ha
    · refine Or.inr (Or.inr ⟨hc, ha, ?_, ?_⟩)
      · have := incR_all b A.reverse [] (fun x hx => ha x (List.mem_reverse.1 hx))
        rw [List.append_nil] at this
        rw [hf, this]
        simp [incR]
      · have := incR_all b A.reverse [] (fun x hx => ha x (List.mem_reverse.1 hx))
        rw [List.append_nil] at this
        rw [hi, this, h.eq]
        simp [incR, List.reverse_replicate]
    · refine Or.inr (Or.inl ⟨hc, ha, ?_, ?_⟩)
      · have := (incR_some b A.reverse [] (by obtain ⟨x, hx, hn⟩ := ha; exact ⟨x, List.mem_reverse.2 hx, hn⟩)).2
        rw [hf, List.length_reverse, this, List.length_reverse]
      · rw [hi, hf, List.reverse_append, List.length_reverse, List.reverse_replicate]
  · refine Or.inl ⟨hc, ?_⟩
    obtain ⟨i1, i2⟩ := incR_some b C.reverse A.reverse (by obtain ⟨x, hx, hn⟩ := hc; exact ⟨x, List.mem_reverse.2 hx, hn⟩)
    rw [i1, List.reverse_append, List.reverse_reverse] at hi
    exact ⟨_, hi, by rw [List.length_reverse, i2, List.length_reverse]⟩

end Go.Proofs.Ytjclbfjjakfjiaa
