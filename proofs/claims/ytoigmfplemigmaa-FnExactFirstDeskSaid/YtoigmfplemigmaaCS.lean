/-
  Structs of any number of cells: loaded whole, handed back from a cell of the function's.
-/
import Derived.Test.YtoigmfplemigmaaT
import Derived.Laws.ResultCell
import Derived.Laws.Rows
namespace Go.Proofs.Ytoigmfplemigmaa
open Go.RowKit
set_option linter.unusedVariables false
set_option linter.unusedSimpArgs false
set_option maxRecDepth 100000

theorem alloc_belowD (w : World) (o : Obj) : Below w.heap.size w (w.alloc o) := (Below.refl _ _).alloc (Nat.le_refl _) o

/-- Block s begins with these cells. -/
def CellsS (w : World) (s : Nat) (vs : List Value) : Prop := ∀ j v, vs[j]? = some v → w.cell? ⟨s, j, none⟩ = some v
theorem CellsS.keep {w w' : World} {s B : Nat} {vs : List Value} (h : CellsS w s vs) (hb : Below B w w') (hs : s < B) : CellsS w' s vs :=
  fun j v hv => (hb.cell (p := ⟨s, j, none⟩) hs).trans (h j v hv)

theorem load_struct {T : TypeId} {d : TypeDesc} (hu : Try.prog.underlying T = some d) (hd : (match d with | .struct _ | .array _ _ => true | _ => false) = true) (vs : List Value) (hi : (Try.prog.info? T).map (·.size) = some vs.length)
    (w : World) (s : Nat) (h : CellsS w s vs) : (loadVar T ⟨s, 0, none⟩).run Try.prog w = .ok (.agg vs.toArray) w := by
  have hl : (loadCells ⟨s, 0, none⟩ vs.length).run Try.prog w = .ok vs.toArray w :=
    run_loadCells_list (P := Try.prog) w ⟨s, 0, none⟩ vs (fun j v hv => by
      have hadd : (⟨s, 0, none⟩ : Addr).add j = ⟨s, 0 + j, none⟩ := by unfold Addr.add; split <;> simp_all
      rw [hadd, Nat.zero_add]
      exact h j v hv)
  cases hq : Try.prog.info? T with
  | none => simp [hq] at hi
  | some i =>
    have hs : i.size = vs.length := by simpa [hq] using hi
    have hagg : (isAgg T).run Try.prog w = .ok true w := by
      unfold isAgg
      rw [Sem.run_bind, run_underlying hu w]
      cases d <;> simp_all
    simp [loadVar, Sem.run_bind, hagg, sizeOf, typeInfo, hq, hs, hl]

theorem results_one {P : Program} {fn : Func} {p : Tmp} {ty : TypeId} (h : fn.results = #[.cell p ty]) (tmps : Array Value) (w : World) (s : Nat) (v : Value) (hp : tmps.getD p undef = .pointer (some ⟨s, 0, none⟩)) (hl : (loadVar ty ⟨s, 0, none⟩).run P w = .ok v w) :
    (results fn tmps).run P w = .ok v w := by
  have hp' : tmps[p]?.getD undef = .pointer (some ⟨s, 0, none⟩) := by simpa using hp
  simp [results, h, hp', asAddr, hl]
theorem results_two {P : Program} {fn : Func} {p u : Tmp} {ty : TypeId} (h : fn.results = #[.cell p ty, .tmp u]) (tmps : Array Value) (w : World) (s : Nat) (v : Value) (hp : tmps.getD p undef = .pointer (some ⟨s, 0, none⟩)) (hl : (loadVar ty ⟨s, 0, none⟩).run P w = .ok v w) :
    (results fn tmps).run P w = .ok (.tuple #[v, tmps.getD u undef]) w := by
  rw [results_cell_tmp h, hp]
  simp [asAddr, hl, Result.andThen]
theorem results_three {P : Program} {fn : Func} {p u t : Tmp} {ty : TypeId} (h : fn.results = #[.cell p ty, .tmp u, .tmp t]) (tmps : Array Value) (w : World) (s : Nat) (v : Value) (hp : tmps.getD p undef = .pointer (some ⟨s, 0, none⟩)) (hl : (loadVar ty ⟨s, 0, none⟩).run P w = .ok v w) :
    (results fn tmps).run P w = .ok (.tuple #[v, tmps.getD u undef, tmps.getD t undef]) w := by
  have hp' : tmps[p]?.getD undef = .pointer (some ⟨s, 0, none⟩) := by simpa using hp
  simp [results, h, hp', asAddr, hl, Sem.run_bind, Result.andThen]
theorem results_mid {P : Program} {fn : Func} {p u t : Tmp} {ty : TypeId} (h : fn.results = #[.tmp u, .cell p ty, .tmp t]) (tmps : Array Value) (w : World) (s : Nat) (v : Value) (hp : tmps.getD p undef = .pointer (some ⟨s, 0, none⟩)) (hl : (loadVar ty ⟨s, 0, none⟩).run P w = .ok v w) :
    (results fn tmps).run P w = .ok (.tuple #[tmps.getD u undef, v, tmps.getD t undef]) w := by
  have hp' : tmps[p]?.getD undef = .pointer (some ⟨s, 0, none⟩) := by simpa using hp
  simp [results, h, hp', asAddr, hl, Sem.run_bind, Result.andThen]

/-- A desk as a value. -/
abbrev dsk (n b : Int) : Value := .agg #[.int .i64 n, .int .i64 b]
theorem infoDk : (Try.prog.info? 23).map (·.size) = some 2 := by kernel_rfl
theorem infoDl : (Try.prog.info? 27).map (·.size) = some 2 := by kernel_rfl
theorem load_dk (w : World) (s : Nat) (n b : Int) (h0 : w.cell? ⟨s, 0, none⟩ = some (.int .i64 n)) (h1 : w.cell? ⟨s, 1, none⟩ = some (.int .i64 b)) : (loadVar 23 ⟨s, 0, none⟩).run Try.prog w = .ok (dsk n b) w :=
  load_struct Try.underlying23 rfl [.int .i64 n, .int .i64 b] infoDk w s (fun j v hv => by
    match j, hv with
    | 0, hv => simp at hv; subst hv; exact h0
    | 1, hv => simp at hv; subst hv; exact h1
    | j + 2, hv => simp at hv)

end Go.Proofs.Ytoigmfplemigmaa
