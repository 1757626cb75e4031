/-
  Joint text of ZA, ZB, ZC: what each proves stands ahead of it.
-/
import Derived.Test.YtlbjeiaihenjkaaGreatDoorJ25
import Derived.Test.YtlbjeiaihenjkaaGreatDoorJ23
import Derived.Test.YtlbjeiaihenjkaaGreatDoorJ24
/- from ZA: The next palindrome: the program's way and the model's way are one.  -/
namespace Go.Proofs.YtlbjeiaihenjkaaGreatDoor
set_option linter.unusedVariables false
set_option linter.unusedSimpArgs false

theorem incR_all (b : Int) : ∀ (X Y : List Int), (∀ x ∈ X, x = b - 1) → incR b (X ++ Y) = List.replicate X.length 0 ++ incR b Y := by
  intro X
  induction X with
  | nil => intro Y _; rfl
  | cons x X ih =>
    intro Y h
    rw [List.cons_append, incR, if_pos (h x (by simp)), ih Y (fun z hz => h z (by simp [hz]))]
    rfl

theorem incR_some (b : Int) : ∀ (X Y : List Int), (∃ x ∈ X, x ≠ b - 1) → incR b (X ++ Y) = incR b X ++ Y ∧ (incR b X).length = X.length := by
  intro X
  induction X with
  | nil => intro Y h; obtain ⟨x, hx, _⟩ := h; simp at hx
  | cons x X ih =>
    intro Y h
    by_cases hx : x = b - 1
    · have h2 : ∃ y ∈ X, y ≠ b - 1 := by
        obtain ⟨y, hy, hn⟩ := h
        rcases List.mem_cons.1 hy with rfl | hy
        · exact absurd hx hn
        · exact ⟨y, hy, hn⟩
      obtain ⟨i1, i2⟩ := ih Y h2
      rw [List.cons_append, incR, incR, if_pos hx, if_pos hx, i1]
      exact ⟨rfl, by simp [i2]⟩
    · rw [List.cons_append, incR, incR, if_neg hx, if_neg hx]
      exact ⟨rfl, rfl⟩

theorem all_or (b : Int) (X : List Int) : (∀ x ∈ X, x = b - 1) ∨ ∃ x ∈ X, x ≠ b - 1 := by
  by_cases h : ∃ x ∈ X, x ≠ b - 1
  · exact Or.inr h
  · exact Or.inl fun x hx => by
      by_cases e : x = b - 1
      · exact e
      · exact absurd ⟨x, hx, e⟩ h

theorem rev_drop (b : Int) (hb : 2 ≤ b) : ∀ (j : Nat) (n : Int), 0 ≤ n → j < (revD b n).length → revD b (n / b ^ j) = (revD b n).drop j ∧ 0 ≤ n / b ^ j := by
  intro j
  induction j with
  | zero => intro n h0 _; simpa using h0
  | succ j ih =>
    intro n h0 hj
    obtain ⟨i1, i2⟩ := ih n h0 (by omega)
    have hq : n / b ^ (j + 1) = n / b ^ j / b := by
      rw [Int.pow_succ, Int.ediv_ediv_of_nonneg (Int.pow_nonneg (by omega))]
    have hl : 2 ≤ ((revD b n).drop j).length := by rw [List.length_drop]; omega
    have hbig : b ≤ n / b ^ j := by
      by_cases h : b ≤ n / b ^ j
      · exact h
      · rw [← i1, revD_small _ _ h] at hl
        simp at hl
    have h3 := revD_big b _ hb hbig
    rw [i1] at h3
    refine ⟨?_, ?_⟩
    · rw [hq]
      have := congrArg (List.drop 1) h3
      rw [List.drop_drop] at this
      simpa using this.symm
    · rw [hq]
      exact (div_lt b _ hb hbig).1

theorem mir_app (A C : List Int) (h1 : C.length ≤ A.length) (h2 : A.length ≤ C.length + 1) : mir (A ++ C) = A ++ (A.take C.length).reverse := by
  unfold mir
  have e1 : (A ++ C).length - (A ++ C).length / 2 = A.length := by rw [List.length_append]; omega
  have e2 : (A ++ C).length / 2 = C.length := by rw [List.length_append]; omega
  rw [e1, e2, List.take_left', List.take_append_of_le_length h1]
  rfl

theorem cmpI_lt {x y : Int} : cmpI x y < 0 ↔ x < y := by
  unfold cmpI
  split
  · simp; omega
  · split <;> simp <;> omega

theorem cmpI_eq {x y : Int} : cmpI x y = 0 ↔ x = y := by
  unfold cmpI
  split
  · simp; omega
  · split <;> simp <;> omega

theorem val_cmp (b : Int) (hb : 2 ≤ b) : ∀ (xs ys : List Int) (a : Int), xs.length = ys.length → (∀ x ∈ xs, 0 ≤ x ∧ x ≤ b - 1) → (∀ y ∈ ys, 0 ≤ y ∧ y ≤ b - 1) → 0 ≤ a → (cmpL xs ys < 0 ↔ val b xs a < val b ys a) := by
  intro xs
  induction xs with
  | nil => intro ys a hl _ _ _; have : ys = [] := List.eq_nil_of_length_eq_zero hl.symm
           subst this; simp [cmpL, val]
  | cons x xs ih =>
    intro ys a hl hx hy ha
    cases ys with
    | nil => simp at hl
    | cons y ys =>
      have hl' : xs.length = ys.length := by simpa using hl
      have h1 := hx x (by simp)
      have h2 := hy y (by simp)
      have hx' : ∀ z ∈ xs, 0 ≤ z ∧ z ≤ b - 1 := fun z hz => hx z (by simp [hz])
      have hy' : ∀ z ∈ ys, 0 ≤ z ∧ z ≤ b - 1 := fun z hz => hy z (by simp [hz])
      have h4 : 0 ≤ a * b := Int.mul_nonneg ha (by omega)
      rw [cmpL, val, val]
      by_cases e : cmpI x y = 0
      · rw [if_pos e]
        have := cmpI_eq.1 e
        subst this
        exact ih ys _ hl' hx' hy' (by omega)
      · rw [if_neg e, cmpI_lt]
        constructor
        · intro h
          exact val_lt b hb xs ys _ _ hl' hx' hy' (by omega) (by omega)
        · intro h
          by_cases hlt : x < y
          · exact hlt
          · have hne : x ≠ y := fun hc => e (cmpI_eq.2 hc)
            have := val_lt b hb ys xs (a * b + y) (a * b + x) hl'.symm hy' hx' (by omega) (by omega)
            omega

theorem cmpL_app (p xs ys : List Int) : cmpL (p ++ xs) (p ++ ys) = cmpL xs ys := by
  induction p with
  | nil => rfl
  | cons d p ih => rw [List.cons_append, List.cons_append, cmpL, if_pos (cmpI_eq.2 rfl), ih]

theorem top_ge (b : Int) : ∀ (xs ys : List Int), xs.length = ys.length → (∀ x ∈ xs, x = b - 1) → (∀ y ∈ ys, y ≤ b - 1) → ¬ cmpL xs ys < 0 := by
  intro xs
  induction xs with
  | nil => intro ys hl _ _; have : ys = [] := List.eq_nil_of_length_eq_zero hl.symm
           subst this; simp [cmpL]
  | cons x xs ih =>
    intro ys hl hx hy
    cases ys with
    | nil => simp at hl
    | cons y ys =>
      have h1 := hx x (by simp)
      have h2 := hy y (by simp)
      rw [cmpL]
      split
      · exact ih ys (by simpa using hl) (fun z hz => hx z (by simp [hz])) (fun z hz => hy z (by simp [hz]))
      · rw [cmpI_lt]; omega

theorem zero_le (xs ys : List Int) (hl : xs.length = ys.length) (hx : ∀ x ∈ xs, 0 ≤ x) (hy : ∀ y ∈ ys, y = 0) : ¬ cmpL xs ys < 0 := by
  induction xs generalizing ys with
  | nil => have : ys = [] := List.eq_nil_of_length_eq_zero hl.symm
           subst this; simp [cmpL]
  | cons x xs ih =>
    cases ys with
    | nil => simp at hl
    | cons y ys =>
      have h1 := hx x (by simp)
      have h2 := hy y (by simp)
      rw [cmpL]
      split
      · exact ih ys (by simpa using hl) (fun z hz => hx z (by simp [hz])) (fun z hz => hy z (by simp [hz]))
      · rw [cmpI_lt]; omega

/-- What NextPalindrome answers for a number and a base. -/
def RNextPalindrome (b n : Int) : Option Int :=
  let L := dgs b (n + 1)
  let M := mir L
  if cmpL M L < 0 then numF b (mir (raiseAt b ((M.length - 1) / 2) M)) 0 else numF b M 0

/-- The first half of the digits, as a number. -/
def fstH (b n : Int) : Int := n / b ^ ((dgs b n).length / 2)
/-- One 1, zeros and one 1. -/
def ends (k : Nat) : List Int := ((List.replicate (k + 1) (0 : Int)).set 0 1).set k 1

theorem ends_eq (k : Nat) : ends (k + 1) = 1 :: (List.replicate k 0 ++ [1]) := by
  unfold ends
  rw [List.replicate_succ, List.set_cons_zero, List.set_cons_succ, List.replicate_succ', List.set_append_right _ _ (by simp)]
  simp

/-- What the halves of a number's digits are. -/
structure Halves (b n : Int) (A C : List Int) : Prop where
  eq : dgs b n = A ++ C
  alen : A.length = ((dgs b n).length + 1) / 2
  clen : C.length = (dgs b n).length / 2
  fst : dgs b (fstH b n) = A
  pos : 0 ≤ fstH b n

theorem halves (b n : Int) (hb : 2 ≤ b) (h0 : 0 ≤ n) : ∃ A C, Halves b n A C := by
  have hl := dgs_len b n
  have hp := dgs_pos b n
  obtain ⟨i1, i2⟩ := rev_drop b hb ((dgs b n).length / 2) n h0 (by omega)
  refine ⟨((revD b n).drop ((dgs b n).length / 2)).reverse, ((revD b n).take ((dgs b n).length / 2)).reverse, ?_, ?_, ?_, ?_, i2⟩
  · rw [← List.reverse_append, List.take_append_drop]
    rfl
  · rw [List.length_reverse, List.length_drop]; omega
  · rw [List.length_reverse, List.length_take]; omega
  · rw [← i1]; rfl

theorem Halves.take {b n : Int} {A C : List Int} (h : Halves b n A C) : (dgs b n).take (((dgs b n).length + 1) / 2) = A := by
  rw [← h.alen, h.eq, List.take_left']
  rfl

theorem Halves.drop {b n : Int} {A C : List Int} (h : Halves b n A C) : (dgs b n).drop (((dgs b n).length + 1) / 2) = C := by
  rw [← h.alen, h.eq, List.drop_left']
  rfl

theorem fst_val (b n : Int) (hb : 2 ≤ b) (h0 : 0 ≤ n) : val b ((dgs b n).take (((dgs b n).length + 1) / 2)) 0 = fstH b n := by
  obtain ⟨A, C, h⟩ := halves b n hb h0
  rw [h.take, ← h.fst]
  exact val_dgs b hb _ _ (Nat.le_refl _) h.pos

theorem dgs_inc (b n : Int) (hb : 2 ≤ b) (h0 : 0 ≤ n) : dgs b (n + 1) = (incR b (dgs b n).reverse).reverse := by
  unfold dgs
  rw [revD_inc b hb _ n (Nat.le_refl _) h0, List.reverse_reverse]

/-- One more, by halves. -/
theorem inc_halves (b n : Int) (hb : 2 ≤ b) (h0 : 0 ≤ n) (A C : List Int) (h : Halves b n A C) :
    ((∃ x ∈ C, x ≠ b - 1) ∧ ∃ C', dgs b (n + 1) = A ++ C' ∧ C'.length = C.length) ∨
    ((∀ x ∈ C, x = b - 1) ∧ (∃ x ∈ A, x ≠ b - 1) ∧ (dgs b (fstH b n + 1)).length = A.length ∧ dgs b (n + 1) = dgs b (fstH b n + 1) ++ List.replicate C.length 0) ∨
    ((∀ x ∈ C, x = b - 1) ∧ (∀ x ∈ A, x = b - 1) ∧ (dgs b (fstH b n + 1)).length = A.length + 1 ∧ dgs b (n + 1) = 1 :: List.replicate (dgs b n).length 0) := by
  have hi := dgs_inc b n hb h0
  have hf := dgs_inc b (fstH b n) hb h.pos
  rw [h.fst] at hf
  rw [h.eq, List.reverse_append] at hi
  rcases all_or b C with hc | hc
  · rw [incR_all b C.reverse A.reverse (fun x hx => hc x (List.mem_reverse.1 hx))] at hi
    rcases all_or b A with ha | ha
    · refine Or.inr (Or.inr ⟨hc, ha, ?_, ?_⟩)
      · have := incR_all b A.reverse [] (fun x hx => ha x (List.mem_reverse.1 hx))
        rw [List.append_nil] at this
        rw [hf, this]
        simp [incR]
      · have := incR_all b A.reverse [] (fun x hx => ha x (List.mem_reverse.1 hx))
        rw [List.append_nil] at this
        rw [hi, this, h.eq]
        simp [incR, List.reverse_replicate]
    · refine Or.inr (Or.inl ⟨hc, ha, ?_, ?_⟩)
      · have := (incR_some b A.reverse [] (by obtain ⟨x, hx, hn⟩ := ha; exact ⟨x, List.mem_reverse.2 hx, hn⟩)).2
        rw [hf, List.length_reverse, this, List.length_reverse]
      · rw [hi, hf, List.reverse_append, List.length_reverse, List.reverse_replicate]
  · refine Or.inl ⟨hc, ?_⟩
    obtain ⟨i1, i2⟩ := incR_some b C.reverse A.reverse (by obtain ⟨x, hx, hn⟩ := hc; exact ⟨x, List.mem_reverse.2 hx, hn⟩)
    rw [i1, List.reverse_append, List.reverse_reverse] at hi
    exact ⟨_, hi, by rw [List.length_reverse, i2, List.length_reverse]⟩

end Go.Proofs.YtlbjeiaihenjkaaGreatDoor

/- from ZB: The next palindrome: the program's way and the model's way are one.  -/
namespace Go.Proofs.YtlbjeiaihenjkaaGreatDoor
set_option linter.unusedVariables false
set_option linter.unusedSimpArgs false

theorem mir_mem {xs : List Int} {x : Int} (h : x ∈ mir xs) : x ∈ xs := by
  unfold mir at h
  rcases List.mem_append.1 h with h | h
  · exact List.mem_of_mem_take h
  · exact List.mem_of_mem_take (List.mem_reverse.1 h)

theorem mir_one (k : Nat) : mir (1 :: List.replicate (k + 1) (0 : Int)) = 1 :: (List.replicate k 0 ++ [1]) := by
  obtain ⟨p, q, hp, hq, hk⟩ : ∃ p q, (k + 2) / 2 = p + 1 ∧ k + 2 - (p + 1) = q + 1 ∧ q + p = k := ⟨(k + 2) / 2 - 1, k - ((k + 2) / 2 - 1), by omega, by omega, by omega⟩
  have e : (1 :: List.replicate (k + 1) (0 : Int)).length = k + 2 := by simp
  unfold mir
  rw [e, hp, hq, List.take_succ_cons, List.take_succ_cons, List.take_replicate, List.take_replicate, Nat.min_eq_left (by omega), Nat.min_eq_left (by omega), List.reverse_cons, List.reverse_replicate, List.cons_append, ← List.append_assoc, List.replicate_append_replicate, hk]

theorem ends_all (k : Nat) : ∀ x ∈ ends (k + 1), x = 0 ∨ x = 1 := by
  intro x hx
  rw [ends_eq] at hx
  simp at hx
  omega

theorem numF_over (b : Int) (hb : 2 ≤ b) (xs : List Int) (h : ∀ x ∈ xs, 0 ≤ x ∧ x ≤ b - 1) (hv : 1000000000000 < val b xs 0) : numF b xs 0 = none := by
  rw [numF_val b hb xs 0 (fun x hx => (h x hx).1) (by omega) (by omega), if_neg (by omega)]

theorem next_main (b n : Int) (hb : 2 ≤ b) (h0 : 0 ≤ n) :
    RNextPalindrome b n = if val b (mir (dgs b n)) 0 ≤ 1000000000000 ∧ n < val b (mir (dgs b n)) 0 then some (val b (mir (dgs b n)) 0)
      else if ((dgs b n).length + 1) / 2 < (dgs b (fstH b n + 1)).length then numF b (ends (dgs b n).length) 0
      else numF b (mir (dgs b (fstH b n + 1) ++ (dgs b n).drop (((dgs b n).length + 1) / 2))) 0 := by
  obtain ⟨A, C, h⟩ := halves b n hb h0
  have hda := dgs_all b n hb h0
  have hna := dgs_all b (fstH b n + 1) hb (by have := h.pos; omega)
  have hla := dgs_all b (n + 1) hb (by omega)
  have hp := dgs_pos b n
  have hA := h.alen
  have hC := h.clen
  have hM0 : mir (dgs b n) = A ++ (A.take C.length).reverse := by rw [h.eq, mir_app A C (by omega) (by omega)]
  have hmd : ∀ x ∈ mir (dgs b n), 0 ≤ x ∧ x ≤ b - 1 := fun x hx => hda x (mir_mem hx)
  have hml := mir_len (dgs b n)
  have hvn := val_dgs b hb _ n (Nat.le_refl _) h0
  have hvl := val_dgs b hb _ (n + 1) (Nat.le_refl _) (by omega)
  have hvf := val_dgs b hb _ (fstH b n) (Nat.le_refl _) h.pos
  have hvx := val_dgs b hb _ (fstH b n + 1) (Nat.le_refl _) (by have := h.pos; omega)
  rw [h.fst] at hvf
  have hdr := h.drop
  have hnum := numF_val b hb (mir (dgs b n)) 0 (fun x hx => (hmd x hx).1) (by omega) (by omega)
  have hf := dgs_inc b (fstH b n) hb h.pos
  rw [h.fst] at hf
  have hle : ¬ cmpL (dgs b n) (mir (dgs b n)) < 0 → ¬ (val b (mir (dgs b n)) 0 ≤ 1000000000000 ∧ n < val b (mir (dgs b n)) 0) := by
    intro hc
    rw [val_cmp b hb _ _ 0 hml.symm hda hmd (by omega), hvn] at hc
    omega
  rcases inc_halves b n hb h0 A C h with ⟨_, C', hL, hC'⟩ | ⟨hc, ha, hxl, hL⟩ | ⟨hc, ha, hxl, hL⟩
  · have hM : mir (dgs b (n + 1)) = mir (dgs b n) := by rw [hL, mir_app A C' (by omega) (by omega), hC', hM0]
    have hll : (mir (dgs b n)).length = (dgs b (n + 1)).length := by rw [← hM, mir_len]
    have hcv := val_cmp b hb (mir (dgs b n)) (dgs b (n + 1)) 0 hll hmd hla (by omega)
    rw [hvl] at hcv
    unfold RNextPalindrome
    simp only [hM]
    by_cases hlt : val b (mir (dgs b n)) 0 < n + 1
    · rw [if_pos (hcv.2 hlt), if_neg (by omega)]
      have hsome : ∃ x ∈ A, x ≠ b - 1 := by
        rcases all_or b A with hall | hs
        · refine absurd (hcv.2 hlt) (top_ge b _ _ hll (fun x hx => ?_) (fun y hy => (hla y hy).2))
          rw [hM0] at hx
          rcases List.mem_append.1 hx with hx | hx
          · exact hall x hx
          · exact hall x (List.mem_of_mem_take (List.mem_reverse.1 hx))
        · exact hs
      have hxl : (dgs b (fstH b n + 1)).length = A.length := by
        have := (incR_some b A.reverse [] (by obtain ⟨x, hx, hn⟩ := hsome; exact ⟨x, List.mem_reverse.2 hx, hn⟩)).2
        rw [hf, List.length_reverse, this, List.length_reverse]
      have hi : ((mir (dgs b n)).length - 1) / 2 + 1 = A.length := by rw [hml]; omega
      have hr := raiseAt_eq b (((mir (dgs b n)).length - 1) / 2) (mir (dgs b n)) (by rw [hml]; omega) (by
        obtain ⟨x, hx, hn⟩ := hsome
        obtain ⟨j, hj, hjx⟩ := List.getElem_of_mem hx
        refine ⟨j, by omega, ?_⟩
        rw [hM0, List.getD, List.getElem?_append_left hj, List.getElem?_eq_getElem hj, hjx]
        exact hn)
      rw [hi] at hr
      have ht : (mir (dgs b n)).take A.length = A := by rw [hM0, List.take_left']; rfl
      have hd : (mir (dgs b n)).drop A.length = (A.take C.length).reverse := by rw [hM0, List.drop_left']; rfl
      rw [ht, hd, ← hf] at hr
      rw [hr, if_neg (by rw [hxl]; omega), hdr, mir_app _ _ (by rw [hxl, List.length_reverse, List.length_take]; omega) (by rw [hxl, List.length_reverse, List.length_take]; omega), mir_app _ _ (by omega) (by omega)]
      congr 4
      rw [List.length_reverse, List.length_take]
      omega
    · rw [if_neg (fun hc => hlt (hcv.1 hc)), hnum]
      by_cases hlim : val b (mir (dgs b n)) 0 ≤ 1000000000000
      · rw [if_pos hlim, if_pos ⟨hlim, by omega⟩]
      · rw [if_neg hlim, if_neg (fun hc => hlim hc.1)]
        split
        · obtain ⟨k, hk⟩ : ∃ k, (dgs b n).length = k + 1 := ⟨(dgs b n).length - 1, by omega⟩
          refine (numF_over b hb _ (fun x hx => ?_) ?_).symm
          · rw [hk] at hx
            have := ends_all k x hx
            omega
          · rw [hk, ends_eq, val]
            have := val_lt b hb (mir (dgs b n)) (List.replicate k 0 ++ [1]) 0 (0 * b + 1) (by rw [hml, hk]; simp) hmd (fun y hy => by simp at hy; omega) (by omega) (by omega)
            omega
        · have hxl : (dgs b (fstH b n + 1)).length = A.length := by
            rcases all_or b A with hall | hs
            · have := incR_all b A.reverse [] (fun x hx => hall x (List.mem_reverse.1 hx))
              rw [List.append_nil] at this
              have hz : (dgs b (fstH b n + 1)).length = A.length + 1 := by rw [hf, this]; simp [incR]
              omega
            · have := (incR_some b A.reverse [] (by obtain ⟨x, hx, hn⟩ := hs; exact ⟨x, List.mem_reverse.2 hx, hn⟩)).2
              rw [hf, List.length_reverse, this, List.length_reverse]
          rw [hdr]
          have hma := mir_app (dgs b (fstH b n + 1)) C (by omega) (by omega)
          refine (numF_over b hb _ (fun x hx => ?_) ?_).symm
          · rcases List.mem_append.1 (mir_mem hx) with hx | hx
            · exact hna x hx
            · exact hda x (by rw [h.eq]; exact List.mem_append.2 (Or.inr hx))
          · have hAm : ∀ x ∈ A, 0 ≤ x ∧ x ≤ b - 1 := fun x hx => hda x (by rw [h.eq]; exact List.mem_append.2 (Or.inl hx))
            have := val_lt b hb ((A.take C.length).reverse) (((dgs b (fstH b n + 1)).take C.length).reverse) (fstH b n) (fstH b n + 1) (by simp [hxl]) (fun x hx => hAm x (List.mem_of_mem_take (List.mem_reverse.1 hx))) (fun x hx => hna x (List.mem_of_mem_take (List.mem_reverse.1 hx))) (by omega) h.pos
            rw [hM0, val_app, hvf] at hlim
            rw [hma, val_app, hvx]
            omega
  · have hM : mir (dgs b (n + 1)) = dgs b (fstH b n + 1) ++ ((dgs b (fstH b n + 1)).take C.length).reverse := by
      rw [hL, mir_app _ _ (by rw [List.length_replicate]; omega) (by rw [List.length_replicate]; omega), List.length_replicate]
    have hle2 := hle (by
      rw [hM0, h.eq, cmpL_app]
      exact top_ge b _ _ (by simp; omega) hc (fun y hy => (hda y (by rw [h.eq]; exact List.mem_append.2 (Or.inl (List.mem_of_mem_take (List.mem_reverse.1 hy))))).2))
    rw [if_neg hle2, if_neg (by rw [hxl]; omega), hdr, mir_app _ C (by omega) (by omega)]
    unfold RNextPalindrome
    simp only [hM]
    rw [if_neg]
    rw [hL, cmpL_app]
    exact zero_le _ _ (by simp; omega) (fun x hx => (hna x (List.mem_of_mem_take (List.mem_reverse.1 hx))).1) (fun y hy => List.eq_of_mem_replicate hy)
  · obtain ⟨k, hk⟩ : ∃ k, (dgs b n).length = k + 1 := ⟨(dgs b n).length - 1, by omega⟩
    have hle2 := hle (by
      refine top_ge b _ _ hml.symm (fun x hx => ?_) (fun y hy => (hmd y hy).2)
      rw [h.eq] at hx
      rcases List.mem_append.1 hx with hx | hx
      · exact ha x hx
      · exact hc x hx)
    rw [if_neg hle2, if_pos (by omega), hk, ends_eq]
    rw [hk] at hL
    have hM : mir (dgs b (n + 1)) = 1 :: (List.replicate k 0 ++ [1]) := by rw [hL, mir_one]
    unfold RNextPalindrome
    simp only [hM]
    rw [if_neg]
    rw [hL]
    have := cmpL_app [1] (List.replicate k 0 ++ [1]) (List.replicate (k + 1) 0)
    simp only [List.singleton_append] at this
    rw [this]
    exact zero_le _ _ (by simp) (fun x hx => by simp at hx; omega) (fun y hy => List.eq_of_mem_replicate hy)

theorem next_num (b n : Int) (hb : 2 ≤ b) (h0 : 0 ≤ n) : numF b (mir (dgs b n)) 0 = if val b (mir (dgs b n)) 0 ≤ 1000000000000 then some (val b (mir (dgs b n)) 0) else none :=
  numF_val b hb _ 0 (fun x hx => (dgs_all b n hb h0 x (mir_mem hx)).1) (by omega) (by omega)

theorem next_a (b n m : Int) (hb : 2 ≤ b) (h0 : 0 ≤ n) (h : numF b (mir (dgs b n)) 0 = some m) (hm : n < m) : RNextPalindrome b n = some m := by
  rw [next_num b n hb h0] at h
  split at h
  · rename_i hl
    cases h
    rw [next_main b n hb h0, if_pos ⟨hl, hm⟩]
  · cases h

theorem next_o (b n : Int) (hb : 2 ≤ b) (h0 : 0 ≤ n) (h : ∀ m, numF b (mir (dgs b n)) 0 = some m → ¬ n < m) : RNextPalindrome b n = if ((dgs b n).length + 1) / 2 < (dgs b (fstH b n + 1)).length then numF b (ends (dgs b n).length) 0
      else numF b (mir (dgs b (fstH b n + 1) ++ (dgs b n).drop (((dgs b n).length + 1) / 2))) 0 := by
  rw [next_main b n hb h0, if_neg]
  rintro ⟨h1, h2⟩
  refine h _ ?_ h2
  rw [next_num b n hb h0, if_pos h1]

end Go.Proofs.YtlbjeiaihenjkaaGreatDoor

/- from ZC: The next palindrome: the program's question.  -/
namespace Go.Proofs.YtlbjeiaihenjkaaGreatDoor
open Go.RowKit
set_option linter.unusedVariables false
set_option linter.unusedSimpArgs false

theorem next_some {b n : Int} (hb : 2 ≤ b) (h0 : 0 ≤ n) (hc : cmpL (mir (dgs b (n + 1))) (dgs b (n + 1)) < 0) :
    ∃ j, j ≤ ((mir (dgs b (n + 1))).length - 1) / 2 ∧ (mir (dgs b (n + 1))).getD j 0 ≠ b - 1 := by
  have hla := dgs_all b (n + 1) hb (by omega)
  have hp := dgs_pos b (n + 1)
  obtain ⟨A, C, h⟩ := halves b (n + 1) hb (by omega)
  have hA := h.alen
  have hC := h.clen
  have hM0 : mir (dgs b (n + 1)) = A ++ (A.take C.length).reverse := by rw [h.eq, mir_app A C (by omega) (by omega)]
  rcases all_or b A with hall | hs
  · refine absurd hc (top_ge b _ _ (mir_len _) (fun x hx => ?_) (fun y hy => (hla y hy).2))
    rw [hM0] at hx
    rcases List.mem_append.1 hx with hx | hx
    · exact hall x hx
    · exact hall x (List.mem_of_mem_take (List.mem_reverse.1 hx))
  · obtain ⟨x, hx, hn⟩ := hs
    obtain ⟨j, hj, hjx⟩ := List.getElem_of_mem hx
    refine ⟨j, by rw [mir_len]; omega, ?_⟩
    rw [hM0, List.getD, List.getElem?_append_left hj, List.getElem?_eq_getElem hj, hjx]
    exact hn

theorem raiseAt_len (b : Int) : ∀ (i : Nat) (xs : List Int), (raiseAt b i xs).length = xs.length := by
  intro i
  induction i with
  | zero => intro xs; simp [raiseAt]
  | succ i ih =>
    intro xs
    rw [raiseAt]
    split
    · rw [ih]; simp
    · simp

theorem raiseAt_all (b : Int) (hb : 2 ≤ b) : ∀ (i : Nat) (xs : List Int), (∀ x ∈ xs, 0 ≤ x ∧ x ≤ b - 1) → ∀ x ∈ raiseAt b i xs, 0 ≤ x ∧ x ≤ b := by
  intro i
  induction i with
  | zero =>
    intro xs h x hx
    rw [raiseAt] at hx
    rcases List.mem_or_eq_of_mem_set hx with hx | rfl
    · have := h x hx; omega
    · cases xs with
      | nil => simp; omega
      | cons y ys => have := h y (by simp); simp; omega
  | succ i ih =>
    intro xs h x hx
    rw [raiseAt] at hx
    split at hx
    · refine ih _ (fun y hy => ?_) x hx
      rcases List.mem_or_eq_of_mem_set hy with hy | rfl
      · exact h y hy
      · omega
    · rcases List.mem_or_eq_of_mem_set hx with hx | rfl
      · have := h x hx; omega
      · by_cases hl : i + 1 < xs.length
        · have := h _ (getD_mem xs (i + 1) hl); omega
        · rw [List.getD, List.getElem?_eq_none (by omega)]; simp; omega

theorem nextPalindrome_any (n b : Int) (w : World) (h0 : 0 ≤ n) (h1 : n ≤ 1000000000000) (hb : 2 ≤ b) (hb' : b ≤ 16) :
    Calls Tryz.prog 174 #[.int .i64 b, .int .i64 n] w fun e w' => e = .returned (optRes (RNextPalindrome b n)) ∧ Below w.heap.size w w' := by
  obtain ⟨L, hL⟩ : ∃ L, L = dgs b (n + 1) := ⟨_, rfl⟩
  obtain ⟨M, hM⟩ : ∃ M, M = mir L := ⟨_, rfl⟩
  have hlen : L.length ≤ 40 := by rw [hL, dgs_len]; exact revD_len41 b (n + 1) hb (by omega) (by omega)
  have hpos : 1 ≤ L.length := by rw [hL]; exact dgs_pos b (n + 1)
  have hml : M.length = L.length := by rw [hM, mir_len]
  have HA := Lib.hid (show ∀ x ∈ M, 0 ≤ x ∧ x ≤ b - 1 from fun x hx => dgs_all b (n + 1) hb (by omega) x (by rw [← hL]; exact mir_mem (by rw [← hM]; exact hx)))
  have HN := Lib.hid (show cmpL M L < 0 → ∃ j, j ≤ (M.length - 1) / 2 ∧ M.getD j 0 ≠ b - 1 from fun hc => by rw [hM, hL] at hc ⊢; exact next_some hb h0 hc)
  have HL := Lib.hid hL
  have HM := Lib.hid hM
  have HML := Lib.hid hml
  have HR0 := Lib.hid (show RNextPalindrome b n = if cmpL M L < 0 then numF b (mir (raiseAt b ((M.length - 1) / 2) M)) 0 else numF b M 0 by rw [hM, hL]; rfl)
  have h01 : 0 ≤ n + 1 := by omega
  clear hL hM hml
  go_enter Tryz.func174, Tryz.ntmps174
  go_wp2_with fail
  refine (digits_any _ _ _ h01 (by omega) hb hb').mono ?_
  rintro e w1 ⟨g, cap, rfl, hr, hbl⟩
  rw [← HL.out] at hr
  rw [← HL.out]
  have HB := Lib.hid hbl
  have HR := Lib.hid hr
  clear hbl hr
  go_wp2_with fail
  refine (mirrored_any _ _ _ _ _ _ HR.out hpos (by omega)).mono ?_
  rintro e w2 ⟨g2, cap2, rfl, hr, hbl⟩
  rw [← HM.out] at hr
  have HR1 := Lib.hid (HR.out.keep hbl)
  have HR2 := Lib.hid hr
  have HB2 := Lib.hid (Below.step HB.out HB.out.size hbl)
  clear hbl hr
  go_wp2_with fail
  refine (compare_any _ _ M L _ HR2.out.sl HR1.out.sl (by rw [HML.out]; omega) HML.out).mono ?_
  rintro e w3 ⟨rfl, hbl⟩
  have HR3 := Lib.hid (HR2.out.keep hbl)
  have HB3 := Lib.hid (Below.step HB2.out HB2.out.size hbl)
  clear hbl
  by_cases hc : cmpL M L < 0
  · have HN2 := Lib.hid (HN.out hc)
    have HR0' := Lib.hid (show RNextPalindrome b n = numF b (mir (raiseAt b ((M.length - 1) / 2) M)) 0 by rw [HR0.out, if_pos hc])
    go_wp2_with fail
    refine (raiseFront_any _ _ _ _ M _ _ HR3.out (by rw [HML.out]; exact hpos) (by rw [HML.out]; omega) hb hb' HA.out HN2.out).mono ?_
    rintro e w4 ⟨rfl, hr, hg⟩
    have HR4 := Lib.hid hr
    have hg2 := HR2.out.at.2.1
    have HB4 := Lib.hid (HB3.out.trans (grown_below hg (by have := HB3.out.size; omega) (by have := HB.out.size; omega)))
    clear hr hg
    obtain ⟨K, hK⟩ : ∃ K, K = raiseAt b ((M.length - 1) / 2) M := ⟨_, rfl⟩
    have hKl : K.length = L.length := by rw [hK, raiseAt_len, HML.out]
    have HKA := Lib.hid (show ∀ x ∈ mir K, 0 ≤ x ∧ x ≤ b from fun x hx => raiseAt_all b hb _ M HA.out x (by rw [← hK]; exact mir_mem hx))
    rw [← hK] at HR4 HR0'
    have HKL := Lib.hid hKl
    clear hK hKl
    go_wp2_with fail
    refine (mirrored_any _ _ _ _ _ _ HR4.out (by rw [HKL.out]; exact hpos) (by rw [HKL.out]; omega)).mono ?_
    rintro e w5 ⟨g5, cap5, rfl, hr, hbl⟩
    have HR5 := Lib.hid hr
    have HB5 := Lib.hid (Below.step HB4.out HB4.out.size hbl)
    clear hbl hr
    go_wp2_with fail
    refine (number_any _ _ _ _ _ HR5.out (fun x hx => by have := HKA.out x hx; omega) hb hb' (by rw [mir_len, HKL.out]; omega)).mono ?_
    rintro e w6 ⟨rfl, rfl⟩
    rw [← HR0'.out]
    go_wp2
    go_ret2
    exact ⟨rfl, HB5.out⟩
  · have HR0' := Lib.hid (show RNextPalindrome b n = numF b M 0 by rw [HR0.out, if_neg hc])
    go_wp2_with fail
    refine (number_any _ _ _ _ _ HR3.out (fun x hx => by have := HA.out x hx; omega) hb hb' (by rw [HML.out]; omega)).mono ?_
    rintro e w6 ⟨rfl, rfl⟩
    rw [← HR0'.out]
    go_wp2
    go_ret2
    exact ⟨rfl, HB3.out⟩

end Go.Proofs.YtlbjeiaihenjkaaGreatDoor
