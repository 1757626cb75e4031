/-
  Joint text of TM TN WI (written by wip/tools/merge.py).
-/
import Derived.Test.YtgiabadkbfbilaaTE
import Derived.Lib.AppendZeros
import Derived.Test.YtgiabadkbfbilaaS2
import Derived.Laws.CopyOwn
import Derived.Test.YtgiabadkbfbilaaA7
/- from XTM -/
namespace Go.Proofs.Ytgiabadkbfbilaa
open Go.RowKit
set_option linter.unusedVariables false
set_option linter.unusedSimpArgs false
set_option maxRecDepth 100000

theorem rd_zero_len {w : World} {g cap : Nat} {cur : Array Value} (h : w.heap[g]? = some (.cells cur 3 (0, 0))) (hc : cur.size = cap) (hm : cap ≤ maxLen) (B : Nat) (hB : B ≤ g) : Rd w B (.slice (some ⟨g, 0, none⟩) 0 cap) [] :=
  ⟨rfl, .inr ⟨g, cap, cur, rfl, hB, h, Nat.zero_le _, hm, by rw [hc, Nat.mul_one], rfl⟩⟩

theorem wpList_growI {w : World} {ops : Array Oper} {rest : List Oper} {o : Oper} {a : Act} {Q : Exit → Act → World → Prop} (hgd : o.guard = none) (s x : Operand)
    (ho : o.op = .call { callee := .builtin .append, args := #[s, x], argTypes := #[24, 3] }) (n : Nat) (hn : 1 ≤ n) (hn2 : n ≤ 1000000000)
    (hs : a.eval s = .slice none 0 0) (hx : a.eval x = .int .i64 (n : Int))
    (h : ∀ G w', G ≤ maxLen → n ≤ G → Rd w' w.heap.size (.slice (some ⟨w.heap.size, 0, none⟩) 0 G) [] → Below w.heap.size w w' → wpList Try.prog ops Q rest (a.put o.dst (.slice (some ⟨w.heap.size, 0, none⟩) n G)) w') : wpList Try.prog ops Q (o :: rest) a w := by
  obtain ⟨i0, hi, hz0, hz1, hz2⟩ := info_parts info3
  have hrun := fun ty => Lib.run_append_nil_zeros (P := Try.prog) w 24 3 ty 3 i0 (.int .i64 0) .i64 .i64 Try.underlying24 Try.underlying3 hi hz0 n (by omega) (by omega) (by omega) (by rw [hz2]; omega)
  refine wpList_plain hgd fun K hK => ?_
  unfold Oper.wp
  simp [execOp, ho, resolve, invoke, builtin, hs, hx, hrun, Result.andThen]
  refine hK _ _ (h (grownCap w n 0 3) _ (grownCap_le_maxLen w n 0 _ (by unfold maxLen; omega)) (grownCap_ge w n 0 _) ?_ (((Below.refl w.heap.size w).drew).alloc (Nat.le_refl _) _))
  refine rd_zero_len (heap_alloc_new w.drew _) ?_ (grownCap_le_maxLen w n 0 _ (by unfold maxLen; omega)) _ (Nat.le_refl _)
  rw [Array.size_append, size_zeroCells, size_zeroCells]
  have := grownCap_ge w n 0 3
  show n * 1 + (grownCap w n 0 3 - n) * 1 = grownCap w n 0 3
  omega

/-- The first parts of a list of lists, joined. -/
def jnP (Y : Nat → List Int) : Nat → List Int
  | 0 => []
  | i + 1 => jnP Y i ++ Y i

end Go.Proofs.Ytgiabadkbfbilaa

/- from XTN -/
namespace Go.Proofs.Ytgiabadkbfbilaa
open Go.RowKit
set_option linter.unusedVariables false
set_option linter.unusedSimpArgs false

theorem sizeInt : (Try.prog.info? 3).map (·.size) = some 1 := by kernel_rfl

/-- A row made with room for just what it holds. -/
theorem Rd.row {w : World} {B g n : Nat} {xs : List Int} (h : Rd w B (.slice (some ⟨g, 0, none⟩) n n) xs) : w.heap[g]? = some (.cells (xs.map (Value.int .i64)).toArray 3 (0, 0)) := by
  obtain ⟨rfl, _⟩ := h.at
  rcases h.2 with ⟨h1, _⟩ | ⟨g', cap', cur, hv, hg, hh, hn, hm, hc, ht⟩
  · simp at h1
  · simp only [Value.slice.injEq, Option.some.injEq, Addr.mk.injEq, and_true, true_and] at hv
    obtain ⟨rfl, rfl⟩ := hv
    rw [hh]
    congr 2
    apply Array.ext'
    rw [← ht]
    simp at hc ht ⊢
    rw [List.take_of_length_le (by simp [hc])]

theorem rd_row {w : World} {B g n : Nat} {xs : List Int} (hB : B ≤ g) (hn : xs.length = n) (hm : n ≤ 1000000) (h : w.heap[g]? = some (.cells (xs.map (Value.int .i64)).toArray 3 (0, 0))) : Rd w B (.slice (some ⟨g, 0, none⟩) n n) xs := by
  subst hn
  refine ⟨by simp, .inr ⟨g, xs.length, _, rfl, hB, h, Nat.le_refl _, by unfold maxLen; omega, by simp, ?_⟩⟩
  rw [Nat.mul_one, List.take_of_length_le (by simp)]

theorem splice_rep (k m c : Nat) (d : Int) (h : k + m ≤ c) :
    splice ((List.replicate k d ++ List.replicate (c - k) (0 : Int)).map (Value.int .i64)) k (List.replicate m (Value.int .i64 d)) = (List.replicate (k + m) d ++ List.replicate (c - (k + m)) (0 : Int)).map (Value.int .i64) := by
  unfold splice
  simp only [List.map_append, List.map_replicate, List.length_replicate]
  rw [List.take_append_of_le_length (by simp), List.take_of_length_le (by simp), List.drop_append, List.drop_eq_nil_of_le (by simp), List.nil_append, List.drop_replicate, List.length_replicate, ← List.append_assoc, List.replicate_append_replicate]
  congr 2
  omega

end Go.Proofs.Ytgiabadkbfbilaa

/- from XWI -/
namespace Go.Proofs.Ytgiabadkbfbilaa
open Go.RowKit
set_option linter.unusedVariables false
set_option linter.unusedSimpArgs false
set_option maxRecDepth 100000

theorem Rd.litw6 (w : World) (g n : Nat) (cs : Array Value) (ys : List Int) (hg : w.heap.size = g) (hc : cs = (ys.map (Value.int .i64)).toArray) (hn : ys.length = n) (hm : n ≤ 100) : Rd (w.alloc (.cells cs 3)) 0 (.slice (some ⟨g, 0, none⟩) n n) ys := by
  subst hc
  subst hg
  subst hn
  have := World.ownsRow_lit (e := 3) (size := 1) (base := 0) w (ys.map (Value.int .i64)).toArray ys.length (Nat.zero_le _) (by unfold maxLen; omega) (by simp)
  unfold Rd
  simpa using this
theorem bel_alloc6 {w x : World} (h : Below w.heap.size w x) (o : Obj) : Below w.heap.size w (x.alloc o) := Below.step h h.size (al_below x o)
theorem bel_step6 {w x y : World} (h : Below w.heap.size w x) (k : Below x.heap.size x y) : Below w.heap.size w y := Below.step h h.size k
theorem rd_low6 {w x y : World} {u : Value} {xs : List Int} (h : Rd y x.heap.size u xs) (hb : Below w.heap.size w x) : Rd y w.heap.size u xs := h.mono hb.size

theorem lspS_mk {b s r g : Int} {Q : Nat} (hg : b - 1 = g) (hr : s % g = r) (hq : s / g = (Q : Int)) : lspS b s = numF b ([r] ++ List.replicate Q g) 0 := by
  unfold lspS
  rw [hg, hr, hq, Int.toNat_natCast]; rfl

end Go.Proofs.Ytgiabadkbfbilaa
