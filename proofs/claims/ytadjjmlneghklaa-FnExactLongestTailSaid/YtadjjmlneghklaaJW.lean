/-
  The program's run of a word.
-/
import Derived.Test.YtadjjmlneghklaaJV
namespace Go.Proofs.Ytadjjmlneghklaa
open Go.RowKit
set_option linter.unusedVariables false
set_option linter.unusedSimpArgs false
set_option maxRecDepth 100000

theorem setCell_grown (w : World) (g j : Nat) (v : Value) : w.grownBy (w.setCell ⟨g, j, none⟩ v) (some g) := by
  refine ⟨rfl, rfl, rfl, by simp [World.setCell], fun k hk hne => ?_⟩
  have : g ≠ k := fun e => hne (by rw [e])
  simp [World.setCell, Array.getElem?_modify, this]
/-- Nothing between B and the end of the first world has changed. -/
def SameH (w w' : World) (B : Nat) : Prop := ∀ k, B ≤ k → k < w.heap.size → w'.heap[k]? = w.heap[k]?
theorem cell_same {w w' : World} {a : Addr} {u : Value} (h : w'.heap[a.block]? = w.heap[a.block]?) (hc : w.cell? a = some u) : w'.cell? a = some u := (World.cell?_of_block h).trans hc
theorem SS.same {w w' : World} {B g3 g1 W : Nat} {b : Int} (h : SS w B g3 g1 W b) (hs : SameH w w' B) : SS w' B g3 g1 W b := by
  obtain ⟨⟨gq, gs, h1, ⟨gw, cw, h2, h3⟩, h4, h5, h6, h7⟩, h8, h9, h10, h11⟩ := h
  have e1 := fun (k : Nat) (o : Nat) (u : Value) (hk : B ≤ k) (hc : w.cell? ⟨k, o, none⟩ = some u) => cell_same (hs k hk (World.block_lt_of_cell? w ⟨k, o, none⟩ hc)) hc
  refine ⟨⟨gq, gs, e1 _ _ _ h10 h1, ⟨gw, cw, e1 _ _ _ h6 h2, ?_⟩, e1 _ _ _ h7 h4, e1 _ _ _ h7 h5, h6, h7⟩, e1 _ _ _ h11 h8, e1 _ _ _ h11 h9, h10, h11⟩
  have hl := h3.lt gw rfl
  refine ⟨h3.1, ?_⟩
  rcases h3.2 with hx | ⟨g, cap, cur, hv, hg, hh, r⟩
  · exact .inl hx
  · refine .inr ⟨g, cap, cur, hv, hg, ?_, r⟩
    have e : g = gw := by simp at hv; omega
    rw [hs g hg (by omega)]; exact hh

end Go.Proofs.Ytadjjmlneghklaa
