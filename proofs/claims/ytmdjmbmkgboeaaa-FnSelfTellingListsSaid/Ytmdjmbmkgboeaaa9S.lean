/-
  How often each index is in a list; lists that tell themselves. Plain, and the searches for them.
-/
import Derived.Test.YtmdjmbmkgboeaaaPW
namespace Go.Proofs.Ytmdjmbmkgboeaaa
set_option linter.unusedVariables false
set_option linter.unusedSimpArgs false

/-- How often a number is in a list. -/
def cntI (x : Int) : List Int → Nat
  | [] => 0
  | y :: ys => cntI x ys + (if y = x then 1 else 0)
theorem cntI_app (x : Int) (a b : List Int) : cntI x (a ++ b) = cntI x a + cntI x b := by
  induction a with
  | nil => simp [cntI]
  | cons y t ih => rw [List.cons_append, cntI, cntI, ih]; omega
theorem cntI_le (x : Int) (a : List Int) : cntI x a ≤ a.length := by
  induction a with
  | nil => simp [cntI]
  | cons y t ih => rw [cntI, List.length_cons]; split <;> omega
/-- The counts of 0 .. n - 1 in a list. -/
def cnL (n : Nat) (xs : List Int) : List Int := lst n (fun i => cntI (i : Int) xs)
theorem cnL_len (n : Nat) (xs : List Int) : (cnL n xs).length = n := lst_len _ _
theorem cnL_nil (n : Nat) : cnL n [] = List.replicate n 0 := by
  unfold cnL lst
  apply List.ext_getElem?
  intro j
  by_cases hj : j < n
  · simp [hj, cntI]
  · rw [List.getElem?_eq_none (by simp; omega), List.getElem?_eq_none (by simp; omega)]
theorem cnL_at (n : Nat) (xs : List Int) (j : Nat) (h : j < n) : (cnL n xs)[j]? = some ((cntI (j : Int) xs : Nat) : Int) := by
  unfold cnL lst
  simp [h]
theorem cnL_in {n : Nat} {xs : List Int} {d : Nat} (hd : d < n) : cnL n (xs ++ [(d : Int)]) = (cnL n xs).set d (((cntI (d : Int) xs : Nat) : Int) + 1) := by
  apply List.ext_getElem?
  intro j
  rw [List.getElem?_set]
  by_cases hj : j < n
  · rw [cnL_at _ _ _ hj, cntI_app]
    by_cases e : d = j
    · subst e
      rw [if_pos rfl, if_pos (by rw [cnL_len]; exact hd)]
      simp [cntI]
    · rw [if_neg e, cnL_at _ _ _ hj]
      have : ¬ (d : Int) = (j : Int) := by omega
      simp [cntI, this]
  · rw [List.getElem?_eq_none (by rw [cnL_len]; omega), if_neg (by omega), List.getElem?_eq_none (by rw [cnL_len]; omega)]
theorem cnL_out {n : Nat} {xs : List Int} {d : Int} (hd : ¬ (0 ≤ d ∧ d < (n : Int))) : cnL n (xs ++ [d]) = cnL n xs := by
  apply List.ext_getElem?
  intro j
  by_cases hj : j < n
  · rw [cnL_at _ _ _ hj, cnL_at _ _ _ hj, cntI_app]
    have : ¬ d = (j : Int) := by omega
    simp [cntI, this]
  · rw [List.getElem?_eq_none (by rw [cnL_len]; omega), List.getElem?_eq_none (by rw [cnL_len]; omega)]

/-- A list tells itself. -/
def selB (xs : List Int) : Bool := decide (cnL xs.length xs = xs)

/-- Sums over places below n. -/
def sumN (f : Nat → Nat) : Nat → Nat
  | 0 => 0
  | n + 1 => sumN f n + f n
theorem sumN_add (f g : Nat → Nat) : ∀ n, sumN (fun i => f i + g i) n = sumN f n + sumN g n
  | 0 => rfl
  | n + 1 => by simp only [sumN]; rw [sumN_add f g n]; omega
theorem sumN_congr {f g : Nat → Nat} : ∀ n, (∀ i, i < n → f i = g i) → sumN f n = sumN g n
  | 0, _ => rfl
  | n + 1, h => by simp only [sumN]; rw [sumN_congr n (fun i hi => h i (by omega)), h n (by omega)]
theorem sumN_one (f : Nat → Nat) (d : Nat) : ∀ n, sumN (fun i => if d = i then f i else 0) n = if d < n then f d else 0
  | 0 => by simp [sumN]
  | n + 1 => by
    simp only [sumN]
    rw [sumN_one f d n]
    by_cases h1 : d < n
    · rw [if_pos h1, if_neg (by omega), if_pos (by omega)]; rfl
    · rw [if_neg h1]
      by_cases h2 : d = n
      · subst h2; rw [if_pos rfl, if_pos (by omega)]; omega
      · rw [if_neg h2, if_neg (by omega)]
theorem sumN_mono {f : Nat → Nat} {k n : Nat} (h : k ≤ n) : sumN f k ≤ sumN f n := by
  induction n with
  | zero => obtain rfl : k = 0 := by omega
            exact Nat.le_refl _
  | succ n ih =>
    by_cases e : k = n + 1
    · rw [e]; exact Nat.le_refl _
    · have := ih (by omega)
      simp only [sumN]
      omega
/-- Worths by place, summed over the numbers of a list. -/
def wsum (c : Nat → Nat) (n : Nat) : List Int → Nat
  | [] => 0
  | y :: ys => wsum c n ys + (if 0 ≤ y ∧ y < (n : Int) then c y.toNat else 0)
theorem sum_cnt (c : Nat → Nat) (n : Nat) : ∀ xs, sumN (fun i => c i * cntI (i : Int) xs) n = wsum c n xs
  | [] => by
    have : sumN (fun i => c i * cntI (i : Int) []) n = sumN (fun _ => 0) n := sumN_congr n (fun i _ => by simp [cntI])
    rw [this]
    have z : ∀ n, sumN (fun _ => 0) n = 0 := fun n => by
      induction n with
      | zero => rfl
      | succ n ih => simp [sumN, ih]
    rw [z]; rfl
  | y :: ys => by
    rw [wsum, ← sum_cnt c n ys]
    have e : sumN (fun i => c i * cntI (i : Int) (y :: ys)) n = sumN (fun i => c i * cntI (i : Int) ys + (if y = (i : Int) then c i else 0)) n :=
      sumN_congr n (fun i _ => by rw [cntI]; split <;> simp [Nat.mul_add])
    rw [e, sumN_add]
    congr 1
    by_cases h : 0 ≤ y ∧ y < (n : Int)
    · rw [if_pos h]
      have e2 : sumN (fun i => if y = (i : Int) then c i else 0) n = sumN (fun i => if y.toNat = i then c i else 0) n :=
        sumN_congr n (fun i _ => by
          by_cases q : y = (i : Int)
          · rw [if_pos q, if_pos (by omega)]
          · rw [if_neg q, if_neg (by omega)])
      rw [e2, sumN_one c y.toNat n, if_pos (by omega)]
    · rw [if_neg h]
      have e2 : sumN (fun i => if y = (i : Int) then c i else 0) n = sumN (fun _ => 0) n :=
        sumN_congr n (fun i hi => if_neg (by omega))
      rw [e2]
      have z : ∀ n, sumN (fun _ => 0) n = 0 := fun n => by
        induction n with
        | zero => rfl
        | succ n ih => simp [sumN, ih]
      exact z n

/-- The number at a place. -/
def nAt (xs : List Int) (i : Nat) : Nat := (xs.getD i 0).toNat
theorem sel_at {xs : List Int} (h : selB xs = true) (i : Nat) (hi : i < xs.length) : xs.getD i 0 = ((cntI (i : Int) xs : Nat) : Int) := by
  have e := of_decide_eq_true h
  have h2 : (cnL xs.length xs)[i]? = xs[i]? := by rw [e]
  rw [cnL_at _ _ _ hi] at h2
  rw [List.getD_eq_getElem?_getD, ← h2]
  rfl
/-- All numbers of a list that tells itself are below its length. -/
theorem sel_lt {xs : List Int} (h : selB xs = true) : ∀ x ∈ xs, 0 ≤ x ∧ x < (xs.length : Int) := by
  intro x hx
  obtain ⟨i, hi, rfl⟩ := List.getElem_of_mem hx
  have e := sel_at h i hi
  have e2 : xs.getD i 0 = xs[i] := by simp [hi]
  rw [e2] at e
  have hle := cntI_le (i : Int) xs
  refine ⟨by omega, ?_⟩
  by_cases c : cntI (i : Int) xs = xs.length
  · -- all numbers are i, so this one too
    have all : ∀ ys : List Int, cntI (i : Int) ys = ys.length → ∀ y ∈ ys, y = (i : Int) := by
      intro ys
      induction ys with
      | nil => intro _ y hy; cases hy
      | cons z zs ih =>
        intro hc y hy
        rw [cntI, List.length_cons] at hc
        have hle2 := cntI_le (i : Int) zs
        by_cases q : z = (i : Int)
        · rw [if_pos q] at hc
          rcases List.mem_cons.1 hy with rfl | hy
          · exact q
          · exact ih (by omega) y hy
        · rw [if_neg q] at hc; omega
    have := all xs c xs[i] hx
    omega
  · omega
theorem wsum_len {n : Nat} : ∀ xs : List Int, (∀ x ∈ xs, 0 ≤ x ∧ x < (n : Int)) → wsum (fun _ => 1) n xs = xs.length
  | [], _ => rfl
  | y :: ys, h => by
    rw [wsum, wsum_len ys (fun x hx => h x (by simp [hx])), if_pos (h y (by simp))]
    simp
/-- Sums of the numbers by places. -/
theorem sumN_nAt_len {xs : List Int} (h : selB xs = true) : sumN (nAt xs) xs.length = xs.length := by
  have e := (sum_cnt (fun _ => 1) xs.length xs).trans (wsum_len xs (sel_lt h))
  refine (sumN_congr _ (fun i hi => ?_)).trans e
  unfold nAt
  rw [sel_at h i hi]
  simp
theorem wsum_val {n : Nat} : ∀ xs : List Int, (∀ x ∈ xs, 0 ≤ x ∧ x < (n : Int)) → ((wsum (fun i => i) n xs : Nat) : Int) = xs.sum
  | [], _ => rfl
  | y :: ys, h => by
    have hy := h y (by simp)
    rw [wsum, if_pos hy, List.sum_cons, ← wsum_val ys (fun x hx => h x (by simp [hx]))]
    push_cast
    omega
theorem sum_upto (xs : List Int) (h : ∀ x ∈ xs, 0 ≤ x) : ∀ k, k ≤ xs.length → ((sumN (nAt xs) k : Nat) : Int) = (xs.take k).sum
  | 0, _ => rfl
  | k + 1, hk => by
    have ih := sum_upto xs h k (by omega)
    have hx := h xs[k] (List.getElem_mem (by omega))
    rw [sum_snoc xs k (by omega), ← ih]
    simp only [sumN]
    have e : nAt xs k = (xs[k]).toNat := by
      unfold nAt
      simp [show k < xs.length by omega]
    rw [e]
    push_cast
    omega
theorem sum_places (xs : List Int) (h : ∀ x ∈ xs, 0 ≤ x) : ((sumN (nAt xs) xs.length : Nat) : Int) = xs.sum := by
  rw [sum_upto xs h xs.length (Nat.le_refl _), List.take_of_length_le (Nat.le_refl _)]
/-- The places of a list that tells itself, each as often as it is told, make its length. -/
theorem sel_sums {xs : List Int} (h : selB xs = true) : sumN (nAt xs) xs.length = xs.length ∧ sumN (fun i => i * nAt xs i) xs.length = xs.length := by
  refine ⟨sumN_nAt_len h, ?_⟩
  have e1 : sumN (fun i => i * nAt xs i) xs.length = sumN (fun i => i * cntI (i : Int) xs) xs.length := sumN_congr _ (fun i hi => by
    unfold nAt
    rw [sel_at h i hi]
    simp)
  rw [e1, sum_cnt]
  have h2 := wsum_val (n := xs.length) xs (sel_lt h)
  have h3 := sum_places xs (fun x hx => (sel_lt h x hx).1)
  rw [sumN_nAt_len h] at h3
  omega

end Go.Proofs.Ytmdjmbmkgboeaaa
