/-
  Worlds of stage 1: memory that is made: append and make on integer slices, as laws for the walk; an argument's slice.
-/
import Derived.Test.YtoigmfplemigmaaW
import Derived.Laws.AppendOwnNone
namespace Go.Proofs.Ytoigmfplemigmaa
open Go.RowKit
set_option linter.unusedVariables false
set_option linter.unusedSimpArgs false

theorem Rd.alloc {w : World} {B : Nat} {v : Value} {xs : List Int} (h : Rd w B v xs) (o : Obj) : Rd (w.alloc o) B v xs := World.ownsRow.alloc h o
theorem Rd.drew {w : World} {B : Nat} {v : Value} {xs : List Int} (h : Rd w B v xs) : Rd w.drew B v xs := h
theorem Rd.drewN {w : World} {B : Nat} {v : Value} {xs : List Int} (h : Rd w B v xs) (n : Nat) : Rd (w.drewN n) B v xs := h
theorem Rd.grown {w w' : World} {B : Nat} {v : Value} {xs : List Int} {row : Option Nat} (h : Rd w B v xs) (hg : w.grownBy w' row) (hne : v.ownBlock = none ∨ v.ownBlock ≠ row) : Rd w' B v xs := World.ownsRow.kept h hg hne

theorem Rd.lit (w : World) (q : Int) : Rd (w.alloc (.cells #[.int .i64 q] 3)) w.heap.size (.slice (some ⟨w.heap.size, 0, none⟩) 1 1) [q] := by
  have := World.ownsRow_lit (e := 3) (size := 1) (base := w.heap.size) w #[.int .i64 q] 1 (Nat.le_refl _) (by unfold maxLen; omega) rfl
  exact this

theorem Rd.litB (w : World) (B : Nat) (q : Int) (hB : B ≤ w.heap.size) : Rd (w.alloc (.cells #[.int .i64 q] 3)) B (.slice (some ⟨w.heap.size, 0, none⟩) 1 1) [q] := (Rd.lit w q).mono hB

theorem grown_trans {a b c : World} {row : Option Nat} (h : a.grownBy b row) (k : b.grownBy c row) : a.grownBy c row :=
  ⟨k.os.trans h.os, k.tape.trans h.tape, k.output.trans h.output, Nat.le_trans h.size k.size, fun i hi hne => (k.block i (Nat.lt_of_lt_of_le hi h.size) hne).trans (h.block i hi hne)⟩
theorem grown_drew {a b : World} {row : Option Nat} (h : a.grownBy b row) : a.grownBy b.drew row := ⟨h.os, h.tape, h.output, h.size, h.block⟩
theorem grown_below {a b : World} {B g : Nat} (h : a.grownBy b (some g)) (hB : B ≤ a.heap.size) (hg : B ≤ g) : Below B a b :=
  (Below.refl _ _).grown h hB (fun k hk => by simp at hk; omega)

/-- What is known of a slice value that holds integers and is not nil. -/
theorem Rd.at {w : World} {B g n cap : Nat} {xs : List Int} (h : Rd w B (.slice (some ⟨g, 0, none⟩) n cap) xs) : n = xs.length ∧ B ≤ g ∧ g < w.heap.size ∧ xs.length ≤ cap ∧
    (∀ j (hj : j < xs.length), w.cell? ⟨g, j, none⟩ = some (.int .i64 xs[j])) ∧ (∀ j, w.frozen? ⟨g, j, none⟩ = false) := by
  rcases h.cases with ⟨h1, _⟩ | ⟨g', cap', h1, h2, h3, h4, _, h5, h6⟩
  · simp at h1
  · simp only [Value.slice.injEq, Option.some.injEq, Addr.mk.injEq, and_true, true_and] at h1
    obtain ⟨rfl, rfl, rfl⟩ := h1
    exact ⟨rfl, h2, h3, h4, h5, h6⟩

/-- A store into a slice of the call's own. -/
theorem Rd.set {w : World} {B g n cap : Nat} {xs : List Int} (h : Rd w B (.slice (some ⟨g, 0, none⟩) n cap) xs) (j : Nat) (q : Int) :
    Rd (w.setCell ⟨g, j, none⟩ (.int .i64 q)) B (.slice (some ⟨g, 0, none⟩) n cap) (xs.set j q) ∧ w.grownBy (w.setCell ⟨g, j, none⟩ (.int .i64 q)) (some g) := by
  obtain ⟨rfl, _⟩ := h.at
  have := World.ownsRow.stored (w := w) (base := B) (e := 3) (size := 1) (n := xs.length) (xs := xs.map (Value.int .i64)) (cap := cap) h j (.int .i64 q)
  refine ⟨?_, this.2⟩
  unfold Rd
  rw [List.map_set, List.length_set]
  exact this.1

theorem toList_made (n : Nat) : (madeCells (Value.int .i64 0).cells (n * 1)).toList = (List.replicate n (0 : Int)).map (Value.int .i64) := by
  have : (Value.int .i64 0).cells = #[.int .i64 0] := rfl
  rw [this, Nat.mul_one, toList_madeCells_one]
  simp

/-- An argument: a slice that holds the integers xs (of an empty one nothing is known). -/
def Sl (w : World) (v : Value) (xs : List Int) : Prop := ∃ a cap, v = .slice a xs.length cap ∧
  (xs = [] ∨ ∃ b off, a = some ⟨b, off, none⟩ ∧ b < w.heap.size ∧ ∀ j (h : j < xs.length), w.cell? ⟨b, off + j, none⟩ = some (.int .i64 xs[j]))

theorem Sl.keep {w w' : World} {v : Value} {xs : List Int} (h : Sl w v xs) (hb : Below w.heap.size w w') : Sl w' v xs := by
  obtain ⟨a, cap, rfl, h2⟩ := h
  refine ⟨a, cap, rfl, ?_⟩
  rcases h2 with h2 | ⟨b, off, h1, h2, h3⟩
  · exact .inl h2
  · exact .inr ⟨b, off, h1, Nat.lt_of_lt_of_le h2 hb.size, fun j hj => (hb.cell (p := ⟨b, off + j, none⟩) h2).trans (h3 j hj)⟩

theorem Sl.len {w : World} {v : Value} {xs : List Int} (h : Sl w v xs) : ∃ a cap, v = .slice a xs.length cap := by
  obtain ⟨a, cap, rfl, _⟩ := h
  exact ⟨a, cap, rfl⟩

theorem below_cells {B : Nat} {w w' : World} (h : Below B w w') : (∀ b o, b < B → w'.cell? ⟨b, o, none⟩ = w.cell? ⟨b, o, none⟩) ∧ (∀ b o, b < B → w'.frozen? ⟨b, o, none⟩ = w.frozen? ⟨b, o, none⟩) :=
  ⟨fun b o hb => h.cell (p := ⟨b, o, none⟩) hb, fun b o hb => h.frozen (p := ⟨b, o, none⟩) hb⟩

theorem set_take_rep (xs : List Int) (k n : Nat) (hn : xs.length = n) (hk : k < n) :
    (xs.take k ++ List.replicate (n - k) (0 : Int)).set k (xs[k]'(by omega)) = xs.take (k + 1) ++ List.replicate (n - (k + 1)) 0 := by
  have hkl : (xs.take k).length = k := by rw [List.length_take]; omega
  rw [take_snoc' xs k (by omega), List.append_assoc, List.set_append, if_neg (by omega)]
  rw [show n - k = (n - (k + 1)) + 1 from by omega, List.replicate_succ, hkl, Nat.sub_self]
  rfl

end Go.Proofs.Ytoigmfplemigmaa
