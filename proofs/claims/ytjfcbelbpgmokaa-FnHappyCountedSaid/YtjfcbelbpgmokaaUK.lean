/-
  slices.Concat of a tail and a cycle: the numbers of a run.
-/
import Derived.Test.YtjfcbelbpgmokaaUJ
import Derived.Lib.AppendZeros
namespace Go.Proofs.Ytjfcbelbpgmokaa
open Go.RowKit
set_option linter.unusedVariables false
set_option linter.unusedSimpArgs false
set_option maxRecDepth 100000

theorem rd_zero_len {w : World} {g cap : Nat} {cur : Array Value} (h : w.heap[g]? = some (.cells cur 3 (0, 0))) (hc : cur.size = cap) (hm : cap ≤ maxLen) (B : Nat) (hB : B ≤ g) : Rd w B (.slice (some ⟨g, 0, none⟩) 0 cap) [] :=
  ⟨rfl, .inr ⟨g, cap, cur, rfl, hB, h, Nat.zero_le _, hm, by rw [hc, Nat.mul_one], rfl⟩⟩

theorem heap_alloc_last (w : World) (o : Obj) : (w.alloc o).heap[w.heap.size]? = some o := heap_alloc_new w o

theorem wpList_growC {w : World} {ops : Array Oper} {rest : List Oper} {o : Oper} {a : Act} {Q : Exit → Act → World → Prop} (hgd : o.guard = none) (s x : Operand)
    (ho : o.op = .call { callee := .builtin .append, args := #[s, x], argTypes := #[73, 3] }) (n : Nat) (hn : 1 ≤ n) (hn2 : n ≤ 1000000000)
    (hs : a.eval s = .slice none 0 0) (hx : a.eval x = .int .i64 (n : Int))
    (h : ∀ G w', G ≤ maxLen → n ≤ G → Rd w' w.heap.size (.slice (some ⟨w.heap.size, 0, none⟩) 0 G) [] → Below w.heap.size w w' → wpList Try.prog ops Q rest (a.put o.dst (.slice (some ⟨w.heap.size, 0, none⟩) n G)) w') : wpList Try.prog ops Q (o :: rest) a w := by
  obtain ⟨i0, hi, hz0, hz1, hz2⟩ := info_parts info3
  have hrun := fun ty => Lib.run_append_nil_zeros (P := Try.prog) w 73 3 ty 3 i0 (.int .i64 0) .i64 .i64 Try.underlying73 Try.underlying3 hi hz0 n (by omega) (by omega) (by omega) (by rw [hz2]; omega)
  refine wpList_plain hgd fun K hK => ?_
  unfold Oper.wp
  simp [execOp, ho, resolve, invoke, builtin, hs, hx, hrun, Result.andThen]
  refine hK _ _ (h (grownCap w n 0 3) _ (grownCap_le_maxLen w n 0 _ (by unfold maxLen; omega)) (grownCap_ge w n 0 _) ?_ (((Below.refl w.heap.size w).drew).alloc (Nat.le_refl _) _))
  refine rd_zero_len (heap_alloc_new w.drew _) ?_ (grownCap_le_maxLen w n 0 _ (by unfold maxLen; omega)) _ (Nat.le_refl _)
  rw [Array.size_append, size_zeroCells, size_zeroCells]
  have := grownCap_ge w n 0 3
  show n * 1 + (grownCap w n 0 3 - n) * 1 = grownCap w n 0 3
  omega

theorem wpList_appC {w : World} {ops : Array Oper} {rest : List Oper} {o : Oper} {a : Act} {Q : Exit → Act → World → Prop} (hgd : o.guard = none) (s x : Operand)
    (ho : o.op = .call { callee := .builtin .append, args := #[s, x], argTypes := #[73, 73] })
    (B : Nat) (v u : Value) (xs ys : List Int) (hs : a.eval s = v) (hx : a.eval x = u) (hv : Rd w B v xs) (hu : Src w u ys)
    (hlen : xs.length + ys.length ≤ 17179869184) (hB : B ≤ w.heap.size)
    (h : ∀ v' w', Rd w' B v' (xs ++ ys) → w.grownBy w' v.ownBlock → Below B w w' → wpList Try.prog ops Q rest (a.put o.dst v') w') : wpList Try.prog ops Q (o :: rest) a w := by
  obtain ⟨i0, hi, hz0, hz1, hz2⟩ := info_parts info3
  have hbel : ∀ w', w.grownBy w' v.ownBlock → Below B w w' := fun w' hg => (Below.refl _ _).grown hg hB (fun k hk => (hv.lt k hk).1)
  rcases hu with ⟨rfl, rfl⟩ | ⟨ad, cap, rfl, hc⟩
  · refine wpList_append_own_none hgd s x 73 ho B 3 i0 1 Try.underlying73 hi v xs.length _ hs hv hx ?_
    exact h v w (by simpa using hv) (World.grownBy.refl _ _) (Below.refl _ _)
  · refine wpList_append_own w hgd s x 73 ho B 3 i0 (.int .i64 0) 1 8 Try.underlying73 hi hz0 hz1 hz2 rfl (by decide) v xs.length _ hs hv ad ys.length cap (ys.map (Value.int .i64)) hx (by simp) ?_ (ints_oneCell _ _) (by unfold maxLen; omega) (by omega) hB ?_
    · intro j q hj
      have hj' : j < ys.length := by
        have := (List.getElem?_eq_some_iff.1 hj).1
        simpa using this
      rw [hc j hj', ← hj]
      simp [hj']
    · intro v' w' h2 h3 _
      refine h v' w' ?_ h3 (hbel w' h3)
      unfold Rd
      rw [List.length_append, List.map_append]
      exact h2

theorem cell_alloc2 (w : World) (o : Obj) (cs : Array Value) (t : TypeId) (j : Nat) : ((w.alloc o).alloc (.cells cs t)).cell? ⟨w.heap.size + 1, j, none⟩ = cs[j]? := by
  have h := heap_alloc_new (w.alloc o) (.cells cs t)
  rw [World.size_alloc] at h
  exact cell_of_row _ _ j cs t (0, 0) h

end Go.Proofs.Ytjfcbelbpgmokaa
