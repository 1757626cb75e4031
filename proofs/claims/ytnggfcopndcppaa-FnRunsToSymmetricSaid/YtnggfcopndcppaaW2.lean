/-
  Worlds of stage 1: memory that is made: append and make on integer slices, as laws for the walk; an argument's slice.
-/
import Derived.Test.YtnggfcopndcppaaW
import Derived.Laws.AppendOwnNone
namespace Go.Proofs.Ytnggfcopndcppaa
open Go.RowKit
set_option linter.unusedVariables false
set_option linter.unusedSimpArgs false

theorem Rd.alloc {w : World} {B : Nat} {v : Value} {xs : List Int} (h : Rd w B v xs) (o : Obj) : Rd (w.alloc o) B v xs := World.ownsRow.alloc h o
theorem Rd.drew {w : World} {B : Nat} {v : Value} {xs : List Int} (h : Rd w B v xs) : Rd w.drew B v xs := h
theorem Rd.drewN {w : World} {B : Nat} {v : Value} {xs : List Int} (h : Rd w B v xs) (n : Nat) : Rd (w.drewN n) B v xs := h
theorem Rd.grown {w w' : World} {B : Nat} {v : Value} {xs : List Int} {row : Option Nat} (h : Rd w B v xs) (hg : w.grownBy w' row) (hne : v.ownBlock = none ∨ v.ownBlock ≠ row) : Rd w' B v xs := World.ownsRow.kept h hg hne

theorem Rd.lit (w : World) (q : Int) : Rd (w.alloc (.cells #[.int .i64 q] 3)) w.heap.size (.slice (some ⟨w.heap.size, 0, none⟩) 1 1) [q] := by
  have := World.ownsRow_lit (e := 3) (size := 1) (base := w.heap.size) w #[.int .i64 q] 1 (Nat.le_refl _) (by unfold maxLen; omega) rfl
  exact this

theorem Rd.litB (w : World) (B : Nat) (q : Int) (hB : B ≤ w.heap.size) : Rd (w.alloc (.cells #[.int .i64 q] 3)) B (.slice (some ⟨w.heap.size, 0, none⟩) 1 1) [q] := (Rd.lit w q).mono hB

theorem grown_trans {a b c : World} {row : Option Nat} (h : a.grownBy b row) (k : b.grownBy c row) : a.grownBy c row :=
  ⟨k.os.trans h.os, k.tape.trans h.tape, k.output.trans h.output, Nat.le_trans h.size k.size, fun i hi hne => (k.block i (Nat.lt_of_lt_of_le hi h.size) hne).trans (h.block i hi hne)⟩
theorem grown_drew {a b : World} {row : Option Nat} (h : a.grownBy b row) : a.grownBy b.drew row := ⟨h.os, h.tape, h.output, h.size, h.block⟩
theorem grown_below {a b : World} {B g : Nat} (h : a.grownBy b (some g)) (hB : B ≤ a.heap.size) (hg : B ≤ g) : Below B a b :=
  (Below.refl _ _).grown h hB (fun k hk => by simp at hk; omega)

/-- What is known of a slice value that holds integers and is not nil. -/
theorem Rd.at {w : World} {B g n cap : Nat} {xs : List Int} (h : Rd w B (.slice (some ⟨g, 0, none⟩) n cap) xs) : n = xs.length ∧ B ≤ g ∧ g < w.heap.size ∧ xs.length ≤ cap ∧
    (∀ j (hj : j < xs.length), w.cell? ⟨g, j, none⟩ = some (.int .i64 xs[j])) ∧ (∀ j, w.frozen? ⟨g, j, none⟩ = false) := by
  rcases h.cases with ⟨h1, _⟩ | ⟨g', cap', h1, h2, h3, h4, _, h5, h6⟩
  · simp at h1
  · simp only [Value.slice.injEq, Option.some.injEq, Addr.mk.injEq, and_true, true_and] at h1
    obtain ⟨rfl, rfl, rfl⟩ := h1
    exact ⟨rfl, h2, h3, h4, h5, h6⟩

/-- A store into a slice of the call's own. -/
theorem Rd.set {w : World} {B g n cap : Nat} {xs : List Int} (h : Rd w B (.slice (some ⟨g, 0, none⟩) n cap) xs) (j : Nat) (q : Int) :
    Rd (w.setCell ⟨g, j, none⟩ (.int .i64 q)) B (.slice (some ⟨g, 0, none⟩) n cap) (xs.set j q) ∧ w.grownBy (w.setCell ⟨g, j, none⟩ (.int .i64 q)) (some g) := by
  obtain ⟨rfl, _⟩ := h.at
  have := World.ownsRow.stored (w := w) (base := B) (e := 3) (size := 1) (n := xs.length) (xs := xs.map (Value.int .i64)) (cap := cap) h j (.int .i64 q)
  refine ⟨?_, this.2⟩
  unfold Rd
  rw [List.map_set, List.length_set]
  exact this.1

theorem wpList_appR {w : World} {ops : Array Oper} {rest : List Oper} {o : Oper} {a : Act} {Q : Exit → Act → World → Prop} (hgd : o.guard = none) (s x : Operand)
    (ho : o.op = .call { callee := .builtin .append, args := #[s, x], argTypes := #[24, 24] })
    (B C : Nat) (v u : Value) (xs ys : List Int) (hs : a.eval s = v) (hx : a.eval x = u) (hv : Rd w B v xs) (hu : Rd w C u ys)
    (hlen : xs.length + ys.length ≤ 17179869184) (hB : B ≤ w.heap.size)
    (h : ∀ v' w', Rd w' B v' (xs ++ ys) → w.grownBy w' v.ownBlock → Below B w w' → wpList Try.prog ops Q rest (a.put o.dst v') w') : wpList Try.prog ops Q (o :: rest) a w := by
  obtain ⟨i0, hi, hz0, hz1, hz2⟩ := info_parts info3
  have hbel : ∀ w', w.grownBy w' v.ownBlock → Below B w w' := fun w' hg => (Below.refl _ _).grown hg hB (fun k hk => (hv.lt k hk).1)
  rcases hu.cases with ⟨rfl, rfl⟩ | ⟨g, cap, rfl, _, _, _, _, hc, _⟩
  · refine wpList_append_own_none hgd s x 24 ho B 3 i0 1 Try.underlying24 hi v xs.length _ hs hv hx ?_
    exact h v w (by simpa using hv) (World.grownBy.refl _ _) (Below.refl _ _)
  · refine wpList_append_own w hgd s x 24 ho B 3 i0 (.int .i64 0) 1 8 Try.underlying24 hi hz0 hz1 hz2 rfl (by decide) v xs.length _ hs hv ⟨g, 0, none⟩ ys.length cap (ys.map (Value.int .i64)) hx (by simp) ?_ (ints_oneCell _ _) (by unfold maxLen; omega) (by omega) hB ?_
    · intro j q hj
      have hj' : j < ys.length := by
        have := (List.getElem?_eq_some_iff.1 hj).1
        simpa using this
      have e : (⟨g, 0, none⟩ : Addr).add j = ⟨g, j, none⟩ := by unfold Addr.add; split <;> simp_all
      rw [e, hc j hj', ← hj]
      simp [hj']
    · intro v' w' h2 h3 _
      refine h v' w' ?_ h3 (hbel w' h3)
      unfold Rd
      rw [List.length_append, List.map_append]
      exact h2

theorem toList_made (n : Nat) : (madeCells (Value.int .i64 0).cells (n * 1)).toList = (List.replicate n (0 : Int)).map (Value.int .i64) := by
  have : (Value.int .i64 0).cells = #[.int .i64 0] := rfl
  rw [this, Nat.mul_one, toList_madeCells_one]
  simp

theorem wpList_mkR {w : World} {ops : Array Oper} {rest : List Oper} {o : Oper} {a : Act} {Q : Exit → Act → World → Prop} (hgd : o.guard = none) (l c : Operand) (ho : o.op = Op.makeSlice 24 l c)
    (kl kc : IntKind) (L C : Int) (n : Nat) (hl : a.eval l = .int kl L) (hc : a.eval c = .int kc C) (hL : L = (n : Int)) (hC : C = (n : Int)) (hn : n ≤ 17179869184)
    (h : ∀ w', Rd w' w.heap.size (.slice (some ⟨w.heap.size, 0, none⟩) n n) (List.replicate n 0) → w.grownBy w' none → Below w.heap.size w w' → wpList Try.prog ops Q rest (a.put o.dst (.slice (some ⟨w.heap.size, 0, none⟩) n n)) w') :
    wpList Try.prog ops Q (o :: rest) a w := by
  obtain ⟨i0, hi, hz0, hz1, hz2⟩ := info_parts info3
  refine wpList_make_full w hgd l c 24 ho w.heap.size 3 i0 (.int .i64 0) 1 Try.underlying24 hi hz0 hz1 kl kc L C n hl hc hL hC (by rw [hz2]; omega) (by unfold maxLen; omega) (Nat.le_refl _) ?_
  intro w' h2 h3
  refine h w' ?_ h3 ((Below.refl _ _).grown h3 (Nat.le_refl _) (fun k hk => by cases hk))
  unfold Rd
  rw [List.length_replicate, ← toList_made]
  exact h2

/-- An argument: a slice that holds the integers xs (of an empty one nothing is known). -/
def Sl (w : World) (v : Value) (xs : List Int) : Prop := ∃ a cap, v = .slice a xs.length cap ∧
  (xs = [] ∨ ∃ b off, a = some ⟨b, off, none⟩ ∧ b < w.heap.size ∧ ∀ j (h : j < xs.length), w.cell? ⟨b, off + j, none⟩ = some (.int .i64 xs[j]))

theorem Sl.keep {w w' : World} {v : Value} {xs : List Int} (h : Sl w v xs) (hb : Below w.heap.size w w') : Sl w' v xs := by
  obtain ⟨a, cap, rfl, h2⟩ := h
  refine ⟨a, cap, rfl, ?_⟩
  rcases h2 with h2 | ⟨b, off, h1, h2, h3⟩
  · exact .inl h2
  · exact .inr ⟨b, off, h1, Nat.lt_of_lt_of_le h2 hb.size, fun j hj => (hb.cell (p := ⟨b, off + j, none⟩) h2).trans (h3 j hj)⟩

theorem Sl.len {w : World} {v : Value} {xs : List Int} (h : Sl w v xs) : ∃ a cap, v = .slice a xs.length cap := by
  obtain ⟨a, cap, rfl, _⟩ := h
  exact ⟨a, cap, rfl⟩

theorem below_cells {B : Nat} {w w' : World} (h : Below B w w') : (∀ b o, b < B → w'.cell? ⟨b, o, none⟩ = w.cell? ⟨b, o, none⟩) ∧ (∀ b o, b < B → w'.frozen? ⟨b, o, none⟩ = w.frozen? ⟨b, o, none⟩) :=
  ⟨fun b o hb => h.cell (p := ⟨b, o, none⟩) hb, fun b o hb => h.frozen (p := ⟨b, o, none⟩) hb⟩

theorem set_take_rep (xs : List Int) (k n : Nat) (hn : xs.length = n) (hk : k < n) :
    (xs.take k ++ List.replicate (n - k) (0 : Int)).set k (xs[k]'(by omega)) = xs.take (k + 1) ++ List.replicate (n - (k + 1)) 0 := by
  have hkl : (xs.take k).length = k := by rw [List.length_take]; omega
  rw [take_snoc' xs k (by omega), List.append_assoc, List.set_append, if_neg (by omega)]
  rw [show n - k = (n - (k + 1)) + 1 from by omega, List.replicate_succ, hkl, Nat.sub_self]
  rfl

end Go.Proofs.Ytnggfcopndcppaa
