/-
  Slices of words in arrays: the first place of a word.
-/
import Derived.Test.YtadjjmlneghklaaJG
import Derived.Test.YtadjjmlneghklaaJS
import Derived.Test.YtadjjmlneghklaaJM
import Derived.Laws.StructEq
namespace Go.Proofs.Ytadjjmlneghklaa
open Go.RowKit
set_option linter.unusedVariables false
set_option linter.unusedSimpArgs false
set_option maxRecDepth 100000

theorem guard8 : Try.prog.eqGuardType Try.prog.depth 65 = false := by kernel_rfl
theorem eq8 (x0 x1 x2 x3 x4 x5 x6 x7 y0 y1 y2 y3 y4 y5 y6 y7 : Int) (w : World) :
    (binOp .eql 65 (.agg #[.int .i64 x0, .int .i64 x1, .int .i64 x2, .int .i64 x3, .int .i64 x4, .int .i64 x5, .int .i64 x6, .int .i64 x7]) (.agg #[.int .i64 y0, .int .i64 y1, .int .i64 y2, .int .i64 y3, .int .i64 y4, .int .i64 y5, .int .i64 y6, .int .i64 y7])).run Try.prog w
      = .ok (.bool (x0 == y0 && x1 == y1 && x2 == y2 && x3 == y3 && x4 == y4 && x5 == y5 && x6 == y6 && x7 == y7)) w := by
  have hz := Try.sizeOf3
  have ha := Try.isAgg3
  have u3 := Try.underlying3
  rw [run_eql_struct, show (10000 : Nat) = 9998 + 1 + 1 from rfl]
  have hi := fun (a b : Int) (w : World) => run_equalIn_int (P := Try.prog) w 9998 3 .i64 .i64 a b u3
  rw [Op.equalIn]
  simp only [Sem.run_bind, run_underlying arr8, Result.andThen_ok]
  by_cases h0 : x0 = y0
  · skip
    by_cases h1 : x1 = y1
    · skip
      by_cases h2 : x2 = y2
      · skip
        by_cases h3 : x3 = y3
        · skip
          by_cases h4 : x4 = y4
          · skip
            by_cases h5 : x5 = y5
            · skip
              by_cases h6 : x6 = y6
              · skip
                by_cases h7 : x7 = y7
                · skip
                  simp [part, ha, hz, hi, Sem.run_bind, Result.andThen, Std.Legacy.Range.forIn_eq_forIn_range', Std.Legacy.Range.size, List.range', h0, h1, h2, h3, h4, h5, h6, h7]
                · simp [part, ha, hz, hi, Sem.run_bind, Result.andThen, Std.Legacy.Range.forIn_eq_forIn_range', Std.Legacy.Range.size, List.range', h0, h1, h2, h3, h4, h5, h6, h7]
              · simp [part, ha, hz, hi, Sem.run_bind, Result.andThen, Std.Legacy.Range.forIn_eq_forIn_range', Std.Legacy.Range.size, List.range', h0, h1, h2, h3, h4, h5, h6]
            · simp [part, ha, hz, hi, Sem.run_bind, Result.andThen, Std.Legacy.Range.forIn_eq_forIn_range', Std.Legacy.Range.size, List.range', h0, h1, h2, h3, h4, h5]
          · simp [part, ha, hz, hi, Sem.run_bind, Result.andThen, Std.Legacy.Range.forIn_eq_forIn_range', Std.Legacy.Range.size, List.range', h0, h1, h2, h3, h4]
        · simp [part, ha, hz, hi, Sem.run_bind, Result.andThen, Std.Legacy.Range.forIn_eq_forIn_range', Std.Legacy.Range.size, List.range', h0, h1, h2, h3]
      · simp [part, ha, hz, hi, Sem.run_bind, Result.andThen, Std.Legacy.Range.forIn_eq_forIn_range', Std.Legacy.Range.size, List.range', h0, h1, h2]
    · simp [part, ha, hz, hi, Sem.run_bind, Result.andThen, Std.Legacy.Range.forIn_eq_forIn_range', Std.Legacy.Range.size, List.range', h0, h1]
  · simp [part, ha, hz, hi, Sem.run_bind, Result.andThen, Std.Legacy.Range.forIn_eq_forIn_range', Std.Legacy.Range.size, List.range', h0]

/-- Words in arrays, one behind the other. -/
def WC (w : World) (g off n : Nat) (F : Nat → List Int) : Prop := ∀ j, j < n → ∀ i, i < 8 → w.cell? ⟨g, off + j * 8 + i, none⟩ = some (.int .i64 ((F j).getD i 0))
theorem WC.keep {w w' : World} {g off n : Nat} {F : Nat → List Int} (h : WC w g off n F) (hb : Below w.heap.size w w') : WC w' g off n F := fun j hj i hi => Below.keeps_cell hb (h j hj i hi)
theorem WC.drew {w : World} {g off n : Nat} {F : Nat → List Int} (h : WC w g off n F) : WC w.drew g off n F := h
/-- A slice of words that is read. -/
def SrcW (w : World) (v : Value) (n : Nat) (F : Nat → List Int) : Prop := (v = .slice none 0 0 ∧ n = 0) ∨ ∃ g off cap, v = .slice (some ⟨g, off, none⟩) n cap ∧ WC w g off n F
theorem SrcW.keep {w w' : World} {v : Value} {n : Nat} {F : Nat → List Int} (h : SrcW w v n F) (hb : Below w.heap.size w w') : SrcW w' v n F := by
  rcases h with h | ⟨g, off, cap, h1, h2⟩
  · exact .inl h
  · exact .inr ⟨g, off, cap, h1, h2.keep hb⟩

theorem dw_ext {a b : List Int} (hl : a.length = b.length) (h8 : a.length ≤ 8) (h : ∀ i, i < 8 → a.getD i 0 = b.getD i 0) : a = b := by
  apply List.ext_getElem hl
  intro i h1 h2
  have := h i (by omega)
  simpa [List.getD_eq_getElem?_getD, h1, h2] using this
theorem eqW (a b : List Int) (q : Bool) (hl : a.length = b.length) (h8 : a.length ≤ 8) (hq : decide (a = b) = q) (w : World) :
    (binOp .eql 65 (.agg #[.int .i64 (a.getD 0 0), .int .i64 (a.getD 1 0), .int .i64 (a.getD 2 0), .int .i64 (a.getD 3 0), .int .i64 (a.getD 4 0), .int .i64 (a.getD 5 0), .int .i64 (a.getD 6 0), .int .i64 (a.getD 7 0)]) (.agg #[.int .i64 (b.getD 0 0), .int .i64 (b.getD 1 0), .int .i64 (b.getD 2 0), .int .i64 (b.getD 3 0), .int .i64 (b.getD 4 0), .int .i64 (b.getD 5 0), .int .i64 (b.getD 6 0), .int .i64 (b.getD 7 0)])).run Try.prog w = .ok (.bool q) w := by
  rw [eq8]
  congr 2
  rw [← hq, Bool.eq_iff_iff, decide_eq_true_iff]
  simp only [Bool.and_eq_true, beq_iff_eq]
  constructor
  · rintro ⟨⟨⟨⟨⟨⟨⟨e0, e1⟩, e2⟩, e3⟩, e4⟩, e5⟩, e6⟩, e7⟩
    refine dw_ext hl h8 fun i hi => ?_
    match i, hi with
    | 0, _ => exact e0
    | 1, _ => exact e1
    | 2, _ => exact e2
    | 3, _ => exact e3
    | 4, _ => exact e4
    | 5, _ => exact e5
    | 6, _ => exact e6
    | 7, _ => exact e7
    | i + 8, h => omega
  · rintro rfl; simp

end Go.Proofs.Ytadjjmlneghklaa
