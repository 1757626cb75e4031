/-
  The program's sums place by place.
-/
import Derived.Test.YtamibonkbpppmaaTE
namespace Go.Proofs.Ytamibonkbpppmaa
open Go.RowKit
set_option linter.unusedVariables false
set_option linter.unusedSimpArgs false
set_option maxRecDepth 100000

/-- A slice of integers made in a drawn region. -/
theorem upon_mkI {w : World} {o : Oper} {a : Act} {K : Act → World → Prop} {Q : Exit → Act → World → Prop} (n : Nat) (hn : n ≤ 1000000)
    (h : ∀ g w', w.heap.size ≤ g → g < w'.heap.size → Rd w' g (.slice (some ⟨g, 0, none⟩) n n) (List.replicate n 0) → Below w.heap.size w w' → K (a.put o.dst (.slice (some ⟨g, 0, none⟩) n n)) w') :
    Oper.upon Try.prog o a K Q ((Sem.run Try.prog (Instr.makeSlice 22 (.int .i64 (n : Int)) (.int .i64 (n : Int))) w).andThen fun a w' => Result.ok (Next.value a) w') := by
  obtain ⟨i0, hi, hz0, hz1, hz2⟩ := info_parts info3
  obtain ⟨w', hr, h2, h3⟩ := run_make_full (P := Try.prog) w w.heap.size 22 3 i0 (.int .i64 0) 1 Try.underlying22 hi hz0 hz1 .i64 .i64 n (by rw [hz2]; omega) (by unfold maxLen; omega) (Nat.le_refl _)
  rw [hr]
  have h4 : Rd w' w.heap.size (.slice (some ⟨w.heap.size, 0, none⟩) n n) (List.replicate n 0) := by
    unfold Rd
    rw [List.length_replicate, ← toList_made]
    exact h2
  exact h w.heap.size w' (Nat.le_refl _) (World.ownsRow.lt h2 _ rfl).2 h4 ((Below.refl _ _).grown h3 (Nat.le_refl _) (fun k hk => by cases hk))

end Go.Proofs.Ytamibonkbpppmaa
