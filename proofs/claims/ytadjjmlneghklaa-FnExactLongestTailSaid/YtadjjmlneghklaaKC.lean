/-
  slices.Concat of words in arrays.
-/
import Derived.Test.YtadjjmlneghklaaKB
import Derived.Lib.AppendZeros
namespace Go.Proofs.Ytadjjmlneghklaa
open Go.RowKit
set_option linter.unusedVariables false
set_option linter.unusedSimpArgs false
set_option maxRecDepth 100000

/-- Some words, and others behind them. -/
def jn (t : Nat) (F G : Nat → List Int) (j : Nat) : List Int := if j < t then F j else G (j - t)
theorem wcs_congr {F G : Nat → List Int} : ∀ {n : Nat}, (∀ j, j < n → F j = G j) → wcs n F = wcs n G
  | 0, _ => rfl
  | n + 1, h => by rw [wcs_succ, wcs_succ, wcs_congr (n := n) (fun j hj => h j (by omega)), h n (by omega)]
theorem wcs_jn (t : Nat) (F G : Nat → List Int) : ∀ m : Nat, wcs (t + m) (jn t F G) = wcs t F ++ wcs m G
  | 0 => by rw [wcs_zero, List.append_nil]; exact wcs_congr fun j hj => by unfold jn; rw [if_pos (by omega)]
  | m + 1 => by
    rw [← Nat.add_assoc, wcs_succ, wcs_jn t F G m, wcs_succ, List.append_assoc]
    congr 4
    unfold jn
    rw [if_neg (by omega), show t + m - t = m by omega]

theorem wpList_growW {w : World} {ops : Array Oper} {rest : List Oper} {o : Oper} {a : Act} {Q : Exit → Act → World → Prop} (hgd : o.guard = none) (s x : Operand)
    (ho : o.op = .call { callee := .builtin .append, args := #[s, x], argTypes := #[73, 3] }) (n : Nat) (hn : 1 ≤ n) (hn2 : n ≤ 1000000)
    (hs : a.eval s = .slice none 0 0) (hx : a.eval x = .int .i64 (n : Int))
    (h : ∀ G w', G ≤ maxLen → n ≤ G → (∀ F, Ww w' w.heap.size (.slice (some ⟨w.heap.size, 0, none⟩) 0 G) 0 F) → Below w.heap.size w w' → wpList Try.prog ops Q rest (a.put o.dst (.slice (some ⟨w.heap.size, 0, none⟩) n G)) w') : wpList Try.prog ops Q (o :: rest) a w := by
  obtain ⟨i0, hi, hz0, hz1, hz2⟩ := info_parts infoW
  have hrun := fun ty => Lib.run_append_nil_zeros (P := Try.prog) w 73 3 ty 65 i0 _ .i64 .i64 Try.underlying73 Try.underlying3 hi hz0 n (by omega) (by omega) (by omega) (by rw [hz2]; omega)
  refine wpList_plain hgd fun K hK => ?_
  unfold Oper.wp
  simp [execOp, ho, resolve, invoke, builtin, hs, hx, hrun, Result.andThen]
  refine hK _ _ (h (grownCap w n 0 65) _ (grownCap_le_maxLen w n 0 _ (by unfold maxLen; omega)) (grownCap_ge w n 0 _) ?_ (((Below.refl w.heap.size w).drew).alloc (Nat.le_refl _) _))
  intro F
  refine ⟨rfl, .inr ⟨w.heap.size, _, _, rfl, Nat.le_refl _, heap_alloc_new w.drew _, Nat.zero_le _, grownCap_le_maxLen w n 0 _ (by unfold maxLen; omega), ?_, by simp [wcs_zero]⟩⟩
  rw [Array.size_append, size_zeroCells, size_zeroCells]
  have := grownCap_ge w n 0 65
  show n * 8 + (grownCap w n 0 65 - n) * 8 = grownCap w n 0 65 * 8
  omega

end Go.Proofs.Ytadjjmlneghklaa
