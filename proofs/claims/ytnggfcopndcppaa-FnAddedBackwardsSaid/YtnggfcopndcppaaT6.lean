/-
  Slices behind the first digits of a row; lists held against each other; the program's difference.
-/
import Derived.Test.YtnggfcopndcppaaTI
import Derived.Test.YtnggfcopndcppaaTK
namespace Go.Proofs.Ytnggfcopndcppaa
open Go.RowKit
set_option linter.unusedVariables false
set_option linter.unusedSimpArgs false
set_option maxRecDepth 100000

/-- A slice of a row of the call's own from some place on to its end. -/
def Ro (w : World) (B : Nat) (v : Value) (xs : List Int) : Prop := ∃ (g n k : Nat) (ys : List Int), v = .slice (some ⟨g, k, none⟩) xs.length (n - k) ∧ k < n ∧ Rd w B (.slice (some ⟨g, 0, none⟩) n n) ys ∧ xs = ys.drop k

theorem Ro.of {w : World} {B g n k : Nat} {ys : List Int} (h : Rd w B (.slice (some ⟨g, 0, none⟩) n n) ys) (hk : k < n) : Ro w B (.slice (some ⟨g, k, none⟩) (n - k) (n - k)) (ys.drop k) := by
  have hn := h.at.1
  exact ⟨g, n, k, ys, by rw [List.length_drop, hn], hk, h, rfl⟩
theorem Ro.mono {w : World} {B C : Nat} {v : Value} {xs : List Int} (h : Ro w B v xs) (hC : C ≤ B) : Ro w C v xs := by
  obtain ⟨g, n, k, ys, h1, h2, h3, h4⟩ := h
  exact ⟨g, n, k, ys, h1, h2, h3.mono hC, h4⟩
theorem Ro.keep {w w' : World} {B : Nat} {v : Value} {xs : List Int} (h : Ro w B v xs) (hb : Below w.heap.size w w') : Ro w' B v xs := by
  obtain ⟨g, n, k, ys, h1, h2, h3, h4⟩ := h
  exact ⟨g, n, k, ys, h1, h2, h3.keep hb, h4⟩
theorem Ro.own {w : World} {B : Nat} {v : Value} {xs : List Int} (h : Ro w B v xs) : ∃ g n ys, v.ownBlock = some g ∧ Rd w B (.slice (some ⟨g, 0, none⟩) n n) ys := by
  obtain ⟨g, n, k, ys, h1, h2, h3, h4⟩ := h
  exact ⟨g, n, ys, by rw [h1]; rfl, h3⟩
theorem Ro.lt {w : World} {B : Nat} {v : Value} {xs : List Int} (h : Ro w B v xs) : ∀ k, v.ownBlock = some k → B ≤ k ∧ k < w.heap.size := by
  obtain ⟨g, n, ys, h1, h3⟩ := h.own
  intro k hk
  rw [h1] at hk
  simp only [Option.some.injEq] at hk
  subst hk
  exact h3.lt g rfl
theorem Ro.grown {w w' : World} {B : Nat} {v : Value} {xs : List Int} {row : Option Nat} (h : Ro w B v xs) (hg : w.grownBy w' row) (hne : v.ownBlock = none ∨ v.ownBlock ≠ row) : Ro w' B v xs := by
  obtain ⟨g, n, k, ys, h1, h2, h3, h4⟩ := h
  rw [h1] at hne
  exact ⟨g, n, k, ys, h1, h2, h3.grown hg hne, h4⟩
theorem Ro.sl {w : World} {B : Nat} {v : Value} {xs : List Int} (h : Ro w B v xs) : Sl w v xs := by
  obtain ⟨g, n, k, ys, h1, h2, h3, h4⟩ := h
  refine ⟨_, _, h1, .inr ⟨g, k, rfl, h3.at.2.2.1, fun j hj => ?_⟩⟩
  subst h4
  have hj' : k + j < ys.length := by rw [List.length_drop] at hj; omega
  rw [h3.at.2.2.2.2.1 (k + j) hj', List.getElem_drop]
theorem Ro.apart {w : World} {B : Nat} {u v : Value} {xs : List Int} (hu : ∀ k, u.ownBlock = some k → k < B) (hv : Ro w B v xs) : u.ownBlock = none ∨ u.ownBlock ≠ v.ownBlock := by
  cases h : u.ownBlock with
  | none => exact .inl rfl
  | some k =>
    right
    intro hc
    have h1 := hu k h
    have h2 := hv.lt k hc.symm
    omega

theorem drop_set' (ys : List Int) (k j : Nat) (q : Int) : (ys.set (k + j) q).drop k = (ys.drop k).set j q := by
  apply List.ext_getElem?
  intro t
  rw [List.getElem?_drop, List.getElem?_set, List.getElem?_set, List.getElem?_drop]
  by_cases h : j = t
  · subst h; rw [if_pos rfl, if_pos rfl, List.length_drop]; by_cases h2 : k + j < ys.length
    · rw [if_pos h2, if_pos (by omega)]
    · rw [if_neg h2, if_neg (by omega)]
  · rw [if_neg h, if_neg (by omega)]

end Go.Proofs.Ytnggfcopndcppaa
