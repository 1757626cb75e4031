/-
  The searches for lists that tell themselves: both find the same ones. Plain.
-/
import Derived.Test.Ytmdjmbmkgboeaaa9S
namespace Go.Proofs.Ytmdjmbmkgboeaaa
set_option linter.unusedVariables false
set_option linter.unusedSimpArgs false

/-- All lists that go on a list by r numbers of 0 .. n and tell themselves. -/
def fS (n : Nat) : Nat → List Int → List (List Int)
  | 0, xs => if selB xs = true then [xs] else []
  | r + 1, xs => (List.range (n + 1)).flatMap fun d => fS n r (xs ++ [((d : Nat) : Int)])
/-- The model's search. -/
def mS (n : Nat) : Nat → List Int → List (List Int)
  | 0, xs => if (n : Int) < xs.sum then [] else if selB xs = true then [xs] else []
  | r + 1, xs => if (n : Int) < xs.sum then [] else (List.range n).flatMap fun d => mS n r (xs ++ [((d : Nat) : Int)])
/-- The program's search. -/
def pMost (n left len : Nat) : Nat := if len = 0 then n else left / len
def pS (n : Nat) : Nat → List Int → Nat → List (List Int)
  | 0, xs, _ => if selB xs = true then [xs] else []
  | r + 1, xs, left => (List.range (pMost n left xs.length + 1)).flatMap fun d => pS n r (xs ++ [((d : Nat) : Int)]) (left - d * xs.length)

theorem fS_empty (n : Nat) : ∀ (r : Nat) (xs : List Int), (∀ zs : List Int, zs.length = r → selB (xs ++ zs) = false) → fS n r xs = []
  | 0, xs, h => by
    have := h [] rfl
    rw [List.append_nil] at this
    rw [fS, this]; rfl
  | r + 1, xs, h => by
    rw [fS, List.flatMap_eq_nil_iff]
    intro d hd
    refine fS_empty n r _ (fun zs hz => ?_)
    rw [List.append_assoc]
    exact h _ (by simp [hz])

theorem range_cut {α : Type} (F : Nat → List α) (m : Nat) : ∀ n, m ≤ n → (∀ d, m ≤ d → d < n → F d = []) → (List.range n).flatMap F = (List.range m).flatMap F
  | 0, h, _ => by obtain rfl : m = 0 := by omega
                  rfl
  | n + 1, h, he => by
    by_cases e : m = n + 1
    · rw [e]
    · rw [List.range_succ, List.flatMap_append, range_cut F m n (by omega) (fun d h1 h2 => he d h1 (by omega))]
      simp [he n (by omega) (by omega)]

theorem fm_congr {α β : Type} {F G : α → List β} : ∀ l : List α, (∀ d ∈ l, F d = G d) → l.flatMap F = l.flatMap G
  | [], _ => rfl
  | d :: l, h => by rw [List.flatMap_cons, List.flatMap_cons, h d (by simp), fm_congr l (fun e he => h e (by simp [he]))]

/-- Numbers of a list that are not negative. -/
def Nn (xs : List Int) : Prop := ∀ x ∈ xs, 0 ≤ x
theorem Nn.snoc {xs : List Int} (h : Nn xs) (d : Nat) : Nn (xs ++ [((d : Nat) : Int)]) := fun x hx => by
  rcases List.mem_append.1 hx with hx | hx
  · exact h x hx
  · simp at hx; omega
theorem Nn.sum {xs : List Int} (h : Nn xs) : 0 ≤ xs.sum := by
  induction xs with
  | nil => simp
  | cons y t ih =>
    have h1 := h y (by simp)
    have h2 := ih (fun x hx => h x (by simp [hx]))
    rw [List.sum_cons]; omega

theorem sel_sum {xs : List Int} (h : selB xs = true) : xs.sum = (xs.length : Int) := by
  rw [← sum_places xs (fun x hx => (sel_lt h x hx).1), (sel_sums h).1]

theorem m_is_f (n : Nat) : ∀ (r : Nat) (xs : List Int), xs.length + r = n → Nn xs → mS n r xs = fS n r xs
  | r, xs, hn, hx => by
    by_cases hs : (n : Int) < xs.sum
    · have e : fS n r xs = [] := fS_empty n r xs (fun zs hz => by
        rw [← Bool.not_eq_true]
        intro hsel
        have h1 := sel_sum hsel
        have h2 : Nn zs := fun x hx => (sel_lt hsel x (by simp [hx])).1
        have h3 := h2.sum
        rw [List.sum_append, List.length_append] at h1
        omega)
      rw [e]
      cases r with
      | zero => rw [mS, if_pos hs]
      | succ r => rw [mS, if_pos hs]
    · cases r with
      | zero => rw [mS, if_neg hs]; rfl
      | succ r =>
        rw [mS, if_neg hs, fS, range_cut (fun d => fS n r (xs ++ [((d : Nat) : Int)])) n (n + 1) (by omega) (fun d h1 h2 => by
          obtain rfl : d = n := by omega
          refine fS_empty d r _ (fun zs hz => ?_)
          rw [← Bool.not_eq_true]
          intro hsel
          have h5 := (sel_lt hsel (d : Int) (by simp)).2
          simp only [List.length_append, List.length_cons, List.length_nil] at h5
          omega)]
        have : ∀ d, mS n r (xs ++ [((d : Nat) : Int)]) = fS n r (xs ++ [((d : Nat) : Int)]) := fun d => m_is_f n r _ (by simp; omega) (hx.snoc d)
        simp only [this]
termination_by r _ _ _ => r

/-- What the numbers told so far make together. -/
def pls (xs : List Int) : Nat := sumN (fun i => i * nAt xs i) xs.length
theorem nAt_app (xs zs : List Int) (i : Nat) (h : i < xs.length) : nAt (xs ++ zs) i = nAt xs i := by
  unfold nAt
  simp [List.getElem?_append_left h]
theorem pls_snoc (xs : List Int) (d : Nat) : pls (xs ++ [((d : Nat) : Int)]) = pls xs + xs.length * d := by
  unfold pls
  rw [List.length_append, List.length_singleton]
  simp only [sumN]
  rw [sumN_congr (f := fun i => i * nAt (xs ++ [((d : Nat) : Int)]) i) (g := fun i => i * nAt xs i) xs.length (fun i hi => by rw [nAt_app xs _ i hi])]
  have : nAt (xs ++ [((d : Nat) : Int)]) xs.length = d := by unfold nAt; simp
  rw [this]
theorem pls_le {xs zs : List Int} (h : selB (xs ++ zs) = true) : pls xs ≤ xs.length + zs.length := by
  have h1 := (sel_sums h).2
  have h2 := sumN_mono (f := fun i => i * nAt (xs ++ zs) i) (k := xs.length) (n := (xs ++ zs).length) (by simp)
  rw [h1, List.length_append] at h2
  have e : sumN (fun i => i * nAt (xs ++ zs) i) xs.length = pls xs := sumN_congr _ (fun i hi => by rw [nAt_app xs zs i hi])
  omega

theorem p_is_f (n : Nat) : ∀ (r : Nat) (xs : List Int) (left : Nat), xs.length + r = n → Nn xs → left + pls xs = n → pS n r xs left = fS n r xs
  | 0, xs, left, hn, hx, hl => rfl
  | r + 1, xs, left, hn, hx, hl => by
    have hmost : pMost n left xs.length ≤ n := by
      unfold pMost
      split
      · omega
      · exact Nat.le_trans (Nat.div_le_self _ _) (by omega)
    rw [pS, fS, range_cut (fun d => fS n r (xs ++ [((d : Nat) : Int)])) (pMost n left xs.length + 1) (n + 1) (by omega) (fun d h1 h2 => by
      refine fS_empty n r _ (fun zs hz => ?_)
      rw [← Bool.not_eq_true]
      intro hsel
      have h5 := pls_le hsel
      rw [pls_snoc, List.length_append, List.length_singleton] at h5
      unfold pMost at h1
      by_cases h0 : xs.length = 0
      · rw [if_pos h0] at h1; omega
      · rw [if_neg h0] at h1
        have h6 := (Nat.div_lt_iff_lt_mul (show 0 < xs.length by omega)).1 (show left / xs.length < d by omega)
        rw [Nat.mul_comm] at h6
        omega)]
    refine fm_congr _ (fun d hd => ?_)
    have hd2 := List.mem_range.1 hd
    have hdl : d * xs.length ≤ left := by
      unfold pMost at hd2
      by_cases h0 : xs.length = 0
      · rw [h0]; omega
      · rw [if_neg h0] at hd2
        exact (Nat.le_div_iff_mul_le (by omega)).1 (by omega)
    refine p_is_f n r _ _ (by simp; omega) (hx.snoc d) ?_
    rw [pls_snoc, Nat.mul_comm xs.length d]
    omega

/-- All lists of n numbers that tell themselves. -/
def selL (n : Nat) : List (List Int) := fS n n []
theorem m_selL (n : Nat) : mS n n [] = selL n := m_is_f n n [] (by simp) (fun x hx => by cases hx)
theorem p_selL (n : Nat) : pS n n [] n = selL n := p_is_f n n [] n (by simp) (fun x hx => by cases hx) (by simp [pls, sumN])

theorem selL_few : ∀ n, 1 ≤ n → n ≤ 10 → (selL n).length ≤ 1000 := by
  have h : ((List.range 11).all fun n => decide ((pS n n [] n).length ≤ 1000)) = true := by decide +kernel
  intro n h1 h2
  rw [← p_selL]
  exact of_decide_eq_true (List.all_eq_true.1 h n (List.mem_range.2 (by omega)))

theorem fS_len (n : Nat) : ∀ (r : Nat) (xs : List Int), ∀ ys ∈ fS n r xs, ys.length = xs.length + r
  | 0, xs, ys, h => by
    rw [fS] at h
    split at h
    · simp at h; subst h; rfl
    · cases h
  | r + 1, xs, ys, h => by
    rw [fS, List.mem_flatMap] at h
    obtain ⟨d, _, h2⟩ := h
    have := fS_len n r _ ys h2
    rw [this, List.length_append, List.length_singleton]
    omega

end Go.Proofs.Ytmdjmbmkgboeaaa
