/-
  The model's search and its order, plain.
-/
import Derived.Test.YtbgnieajeipllaaVP
namespace Go.Proofs.Ytbgnieajeipllaa
open Go.RowKit
set_option linter.unusedVariables false
set_option linter.unusedSimpArgs false
set_option maxRecDepth 100000

/-- The last place of a number among the first k, -1 if there is none. -/
def la (xs : List Int) (x : Int) : Nat → Int
  | 0 => -1
  | k + 1 => if xs.getD k 0 = x then (k : Int) else la xs x k
theorem la_hit {xs : List Int} {x : Int} {k : Nat} (h : xs.getD k 0 = x) : la xs x (k + 1) = (k : Int) := if_pos h
theorem la_miss {xs : List Int} {x : Int} {k : Nat} (h : ¬ xs.getD k 0 = x) : la xs x (k + 1) = la xs x k := if_neg h
theorem la_none {xs : List Int} {x : Int} : ∀ k, (∀ j, j < k → xs.getD j 0 ≠ x) → la xs x k = -1
  | 0, _ => rfl
  | k + 1, h => by rw [la_miss (h k (by omega))]; exact la_none k (fun j hj => h j (by omega))
theorem la_in {xs : List Int} {x : Int} (h : x ∈ xs) (hn : xs.Nodup) : la xs x xs.length = (ixN xs x : Int) := by
  obtain ⟨a, b, c⟩ := ixN_spec xs h
  have : ∀ k, ixN xs x < k → k ≤ xs.length → la xs x k = (ixN xs x : Int) := by
    intro k
    induction k with
    | zero => intro h; omega
    | succ k ih =>
      intro h1 h2
      by_cases e : k = ixN xs x
      · rw [e]; exact la_hit b
      · rw [la_miss (fun hb => nodup_getD hn (i := k) (j := ixN xs x) (by omega) (by omega) (by rw [b, hb]))]
        exact ih (by omega) (by omega)
  exact this _ a (Nat.le_refl _)
theorem la_out {xs : List Int} {x : Int} (h : ¬ x ∈ xs) : la xs x xs.length = -1 := by
  refine la_none _ fun j hj e => h ?_
  rw [← e, List.getD_eq_getElem?_getD, List.getElem?_eq_getElem hj]
  exact List.getElem_mem hj

theorem crn_out {d m : Int} {f : Nat} {pre : List Int} (h : ¬ Nst (stp d m)) : crn d f pre m = none := by
  cases f with
  | zero => rfl
  | succ f => rw [crn, if_neg h]
theorem crn_long {d m : Int} {pre : List Int} (h : 1000 ≤ pre.length) : crn d (1000 - pre.length) pre m = none := by
  rw [Nat.sub_eq_zero_of_le h]; rfl
theorem crn_hit {d m : Int} {pre : List Int} (h : Nst (stp d m)) (hl : pre.length < 1000) (hm : stp d m ∈ pre ++ [m]) : crn d (1000 - pre.length) pre m = some (pre ++ [m], stp d m) := by
  rw [show 1000 - pre.length = (999 - pre.length) + 1 by omega, crn, if_pos h, if_pos hm]
theorem crn_go {d m : Int} {pre : List Int} (h : Nst (stp d m)) (hl : pre.length < 1000) (hm : ¬ stp d m ∈ pre ++ [m]) : crn d (1000 - pre.length) pre m = crn d (1000 - (pre ++ [m]).length) (pre ++ [m]) (stp d m) := by
  rw [show 1000 - pre.length = (999 - pre.length) + 1 by omega, crn, if_pos h, if_neg hm]
  have e : 999 - pre.length = 1000 - (pre ++ [m]).length := by rw [List.length_append, List.length_singleton]; omega
  rw [e]

/-- Where a list goes among lists in order. -/
def posC : List (List Int) → Int → Nat
  | [], _ => 0
  | l :: ls, x => if hd0 l < x then posC ls x + 1 else 0
theorem posC_spec {x : Int} : ∀ ls : List (List Int), posC ls x ≤ ls.length ∧ (∀ t, t < posC ls x → hd0 (ls.getD t []) < x) ∧ (posC ls x < ls.length → ¬ hd0 (ls.getD (posC ls x) []) < x)
  | [] => ⟨Nat.le_refl _, fun t h => by simp [posC] at h, fun h => by simp at h⟩
  | l :: ls => by
    obtain ⟨a, b, c⟩ := posC_spec (x := x) ls
    unfold posC
    by_cases h : hd0 l < x
    · rw [if_pos h]
      refine ⟨by simp; omega, fun t ht => ?_, fun ht => ?_⟩
      · cases t with
        | zero => exact h
        | succ t => exact b t (by omega)
      · exact c (by simpa using ht)
    · rw [if_neg h]
      exact ⟨by simp, fun t ht => by omega, fun _ => h⟩
theorem insC_eq {c : List Int} : ∀ o : List (List Int), insC o c = if posC o (hd0 c) < o.length ∧ hd0 (o.getD (posC o (hd0 c)) []) = hd0 c then o else o.take (posC o (hd0 c)) ++ [c] ++ o.drop (posC o (hd0 c))
  | [] => by simp [insC, posC]
  | l :: ls => by
    have ih := insC_eq (c := c) ls
    unfold insC posC
    by_cases h : hd0 l < hd0 c
    · rw [if_pos h, if_pos h, ih]
      have e : (posC ls (hd0 c) + 1 < (l :: ls).length ∧ hd0 ((l :: ls).getD (posC ls (hd0 c) + 1) []) = hd0 c) ↔ (posC ls (hd0 c) < ls.length ∧ hd0 (ls.getD (posC ls (hd0 c)) []) = hd0 c) := by
        rw [List.length_cons, List.getD_cons_succ]
        constructor
        · rintro ⟨h1, h2⟩; exact ⟨by omega, h2⟩
        · rintro ⟨h1, h2⟩; exact ⟨by omega, h2⟩
      by_cases h2 : posC ls (hd0 c) < ls.length ∧ hd0 (ls.getD (posC ls (hd0 c)) []) = hd0 c
      · rw [if_pos h2, if_pos (e.2 h2)]
      · rw [if_neg h2, if_neg (fun h3 => h2 (e.1 h3))]
        rfl
    · rw [if_neg h, if_neg h]
      by_cases h2 : hd0 l = hd0 c
      · rw [if_pos h2, if_pos ⟨by simp, by rw [List.getD_cons_zero]; exact h2⟩]
      · rw [if_neg h2, if_neg (fun h3 => h2 (by have := h3.2; rwa [List.getD_cons_zero] at this))]
        rfl
theorem lisR_D {ls : List (List Int)} {t : Nat} (h : t < ls.length) : lisR ls t = ls.getD t [] := by unfold lisR; rw [ixR_id h]

end Go.Proofs.Ytbgnieajeipllaa
