/-
  The model's run of a number added to itself backwards.
-/
import Derived.Test.YtamibonkbpppmaaTG
import Derived.Test.YtamibonkbpppmaaTK
namespace Go.Proofs.Ytamibonkbpppmaa
open Go.RowKit
set_option linter.unusedVariables false
set_option linter.unusedSimpArgs false
set_option maxRecDepth 100000

theorem LLi.farN {w w' : World} {B D : Nat} {v u : Value} {vs : List Value} {ls : List (List Int)} {xs : List Int} (h : LLi w B v vs ls) (hw : w.heap.size ≤ D) (hu : Rd w' D u xs) : ∀ (i : Nat) (z : Value), vs[i]? = some z → z.ownBlock = none ∨ z.ownBlock ≠ u.ownBlock := fun i z hz => by
  obtain ⟨l, hl, hr⟩ := h.rd hz
  cases ho : z.ownBlock with
  | none => exact .inl rfl
  | some q =>
    refine .inr (fun e => ?_)
    have h1 := (hr.lt q ho).2
    have h2 := (hu.lt q e.symm).1
    omega

theorem LLi.one (w : World) (B : Nat) (u : Value) (l : List Int) (hu : Rd w B u l) (hB : B ≤ w.heap.size) : LLi (w.alloc (.cells #[u] 22)) B (.slice (some ⟨w.heap.size, 0, none⟩) 1 1) [u] [l] := by
  refine ⟨Rg.lit _ _ _ _ hB, rfl, fun i z m hz hm => ?_, fun i j z y hij hz hy => ?_⟩
  · match i, hz, hm with
    | 0, hz, hm => simp at hz hm; subst hz; subst hm; exact hu.alloc _
    | i + 1, hz, hm => simp at hz
  · have := (List.getElem?_eq_some_iff.1 hy).1
    simp at this
    omega

theorem LLi.get {w : World} {B : Nat} {v : Value} {vs : List Value} {ls : List (List Int)} (h : LLi w B v vs ls) (i : Nat) (hi : i < ls.length) : ∃ u g cap, vs[i]? = some u ∧ v = .slice (some ⟨g, 0, none⟩) ls.length cap ∧ w.cell? ⟨g, i, none⟩ = some u ∧ Rd w B u ls[i] := by
  have hl := h.len
  have hz : vs[i]? = some (vs[i]'(by omega)) := by simp [show i < vs.length by omega]
  rcases h.row.cases with ⟨_, h0⟩ | ⟨g, cap, hv⟩
  · rw [h0] at hl; simp at hl; omega
  · have hrow := h.row
    rw [hv] at hrow
    refine ⟨_, g, cap, hz, by rw [hv, hl], ?_, h.at' i _ _ hz (by simp [hi])⟩
    exact hrow.at.2.2.2.2.2.1 i (by omega)

end Go.Proofs.Ytamibonkbpppmaa
