/-
  The program's run of a number added to itself backwards (written by wip/tools/gen_rvrun.py).
-/
import Derived.Test.YtamibonkbpppmaaTT
namespace Go.Proofs.Ytamibonkbpppmaa
open Go.RowKit
set_option linter.unusedVariables false
set_option linter.unusedSimpArgs false
set_option maxRecDepth 100000

theorem owns_shape {w : World} {B n size : Nat} {e : TypeId} {v : Value} {xs : List Value} (h : w.ownsRow B e size v n xs) : ∃ a c, v = .slice a n c := by
  rcases h.2 with ⟨rfl, rfl⟩ | ⟨g, cap, cur, rfl, _⟩
  · exact ⟨none, 0, rfl⟩
  · exact ⟨some ⟨g, 0, none⟩, cap, rfl⟩

/-- How many a run has left behind, as memory tells. -/
def leftLen (w : World) (s : Nat) : Nat := match w.cell? ⟨s, 2, none⟩ with
  | some (.slice _ n _) => n
  | _ => 0

theorem results_cell_one {P : Program} {fn : Func} {p : Tmp} {ty : TypeId} (h : fn.results = #[.cell p ty]) (tmps : Array Value) (w : World) (s : Nat) (v : Value) (hp : tmps.getD p undef = .pointer (some ⟨s, 0, none⟩)) (hl : (loadVar ty ⟨s, 0, none⟩).run P w = .ok v w) :
    (results fn tmps).run P w = .ok v w := by
  have hp' : tmps[p]?.getD undef = .pointer (some ⟨s, 0, none⟩) := by simpa using hp
  simp [results, h, hp', asAddr, hl]

theorem set_trip {w : World} {s : Nat} {y0 y1 y2 x0 x1 x2 : Value} (h0 : w.cell? ⟨s, 0, none⟩ = some y0) (h1 : w.cell? ⟨s, 1, none⟩ = some y1) (h2 : w.cell? ⟨s, 2, none⟩ = some y2) :
    (((w.setCell ⟨s, 0, none⟩ x0).setCell ⟨s, 1, none⟩ x1).setCell ⟨s, 2, none⟩ x2).cell? ⟨s, 0, none⟩ = some x0 ∧ (((w.setCell ⟨s, 0, none⟩ x0).setCell ⟨s, 1, none⟩ x1).setCell ⟨s, 2, none⟩ x2).cell? ⟨s, 1, none⟩ = some x1 ∧
      (((w.setCell ⟨s, 0, none⟩ x0).setCell ⟨s, 1, none⟩ x1).setCell ⟨s, 2, none⟩ x2).cell? ⟨s, 2, none⟩ = some x2 := by
  have hp := set_pair (x0 := x0) (x1 := x1) h0 h1
  have n0 : (⟨s, 2, none⟩ : Addr) ≠ ⟨s, 0, none⟩ := fun e => by simp at e
  have n1 : (⟨s, 2, none⟩ : Addr) ≠ ⟨s, 1, none⟩ := fun e => by simp at e
  refine ⟨?_, ?_, ?_⟩
  · rw [World.cell?_setCell_other _ _ _ _ n0]; exact hp.1
  · rw [World.cell?_setCell_other _ _ _ _ n1]; exact hp.2
  · refine World.cell?_setCell_same _ _ _ (u := y2) ?_
    rw [World.cell?_setCell_other _ _ _ _ n1.symm, World.cell?_setCell_other _ _ _ _ n0.symm]
    exact h2
theorem trip_grown (w : World) (s : Nat) (x0 x1 x2 : Value) : w.grownBy (((w.setCell ⟨s, 0, none⟩ x0).setCell ⟨s, 1, none⟩ x1).setCell ⟨s, 2, none⟩ x2) (some s) :=
  grown_trans (grown_trans (grown_setCell _ _ _ _) (grown_setCell _ _ _ _)) (grown_setCell _ _ _ _)

end Go.Proofs.Ytamibonkbpppmaa
