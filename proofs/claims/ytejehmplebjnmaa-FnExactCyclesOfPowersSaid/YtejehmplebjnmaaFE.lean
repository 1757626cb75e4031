/-
  Slices of slices of the call's own; the program's cycles.
-/
import Derived.Test.YtejehmplebjnmaaFD
namespace Go.Proofs.Ytejehmplebjnmaa
open Go.RowKit
set_option linter.unusedVariables false
set_option linter.unusedSimpArgs false
set_option maxRecDepth 100000

def nts (l : List Nat) : List Int := l.map fun (x : Nat) => (x : Int)
theorem nts_len (l : List Nat) : (nts l).length = l.length := by simp [nts]
theorem nts_snoc (l : List Nat) (x : Nat) : nts (l ++ [x]) = nts l ++ [(x : Int)] := by simp [nts]

theorem rd_not_set {w : World} {B n b : Nat} {v : Value} {xs : List Int} {s : Nat → Bool} (h : Rd w B v xs) (hs : St w n b s) : some b ≠ v.ownBlock := by
  refine row_not_set (e := 3) (B := B) (xs := xs.map (Value.int .i64)) ?_ hs
  unfold Rg
  rw [List.length_map]
  exact h


/-- A slice of slices: the outer one holds the values vs, which hold the lists ls, each in a block of its own. -/
structure LLv (w : World) (B : Nat) (v : Value) (vs : List Value) (ls : List (List Nat)) : Prop where
  row : Rg 25 w B v vs
  len : vs.length = ls.length
  at' : ∀ (i : Nat) (u : Value) (l : List Nat), vs[i]? = some u → ls[i]? = some l → Rd w B u (nts l)
  apart : ∀ (i j : Nat) (u z : Value), i < j → vs[i]? = some u → vs[j]? = some z → u.ownBlock = none ∨ u.ownBlock ≠ z.ownBlock

theorem LLv.rd {w : World} {B i : Nat} {v u : Value} {vs : List Value} {ls : List (List Nat)} (h : LLv w B v vs ls) (hi : vs[i]? = some u) : ∃ l, ls[i]? = some l ∧ Rd w B u (nts l) := by
  obtain ⟨h1, _⟩ := List.getElem?_eq_some_iff.1 hi
  have h2 : i < ls.length := by rw [← h.len]; exact h1
  exact ⟨ls[i], by simp [h2], h.at' i u _ hi (by simp [h2])⟩

theorem rd_rg {w : World} {B : Nat} {v : Value} {xs : List Int} (h : Rd w B v xs) : Rg 3 w B v (xs.map (Value.int .i64)) := by
  unfold Rg
  rw [List.length_map]
  exact h

theorem rows_apart {e e' : TypeId} (he : e ≠ e') {w : World} {B C : Nat} {v u : Value} {xs ys : List Value} (h : Rg e w B v xs) (h2 : Rg e' w C u ys) : v.ownBlock = none ∨ v.ownBlock ≠ u.ownBlock := by
  rcases h.2 with ⟨rfl, _⟩ | ⟨g, cap, cur, rfl, _, hg, _⟩
  · exact .inl rfl
  · right
    rcases h2.2 with ⟨rfl, _⟩ | ⟨g2, cap2, cur2, rfl, _, hg2, _⟩
    · intro e; cases e
    · intro e
      simp only [Value.ownBlock, Option.some.injEq] at e
      subst e
      rw [hg] at hg2
      simp only [Option.some.injEq, Obj.cells.injEq] at hg2
      exact he hg2.2.1

theorem rd_not_row {w : World} {B C : Nat} {v u : Value} {xs : List Int} {vs : List Value} (h : Rd w B v xs) (h2 : Rg 25 w C u vs) : v.ownBlock = none ∨ v.ownBlock ≠ u.ownBlock := rows_apart (by decide) (rd_rg h) h2
theorem row_not_rd {w : World} {B C : Nat} {v u : Value} {xs : List Int} {vs : List Value} (h : Rd w B v xs) (h2 : Rg 25 w C u vs) : u.ownBlock = none ∨ u.ownBlock ≠ v.ownBlock := rows_apart (by decide) h2 (rd_rg h)

theorem LLv.nil (w : World) (B : Nat) : LLv w B (.slice none 0 0) [] [] := ⟨Rg.nil _ _ _, rfl, fun i u l h => by simp at h, fun i j u z _ h => by simp at h⟩

theorem LLv.grown {w w' : World} {B : Nat} {v : Value} {vs : List Value} {ls : List (List Nat)} {row : Option Nat} (h : LLv w B v vs ls) (hg : w.grownBy w' row) (h1 : v.ownBlock = none ∨ v.ownBlock ≠ row) (h2 : ∀ (i : Nat) (u : Value), vs[i]? = some u → u.ownBlock = none ∨ u.ownBlock ≠ row) : LLv w' B v vs ls :=
  ⟨h.row.grown hg h1, h.len, fun i u l hu hl => (h.at' i u l hu hl).grown hg (h2 i u hu), h.apart⟩
theorem LLv.keep {w w' : World} {B : Nat} {v : Value} {vs : List Value} {ls : List (List Nat)} (h : LLv w B v vs ls) (hb : Below w.heap.size w w') : LLv w' B v vs ls :=
  ⟨h.row.keep hb, h.len, fun i u l hu hl => (h.at' i u l hu hl).keep hb, h.apart⟩
theorem LLv.mono {w : World} {B C : Nat} {v : Value} {vs : List Value} {ls : List (List Nat)} (h : LLv w B v vs ls) (hC : C ≤ B) : LLv w C v vs ls :=
  ⟨h.row.mono hC, h.len, fun i u l hu hl => (h.at' i u l hu hl).mono hC, h.apart⟩
theorem LLv.alloc {w : World} {B : Nat} {v : Value} {vs : List Value} {ls : List (List Nat)} (h : LLv w B v vs ls) (o : Obj) : LLv (w.alloc o) B v vs ls :=
  ⟨h.row.alloc o, h.len, fun i u l hu hl => (h.at' i u l hu hl).alloc o, h.apart⟩

theorem LLv.snoc {w w' : World} {B : Nat} {v v' u : Value} {vs : List Value} {ls : List (List Nat)} {l : List Nat} {o : Obj} (h : LLv w B v vs ls) (hu : Rd w B u (nts l)) (ha : ∀ (i : Nat) (z : Value), vs[i]? = some z → z.ownBlock = none ∨ z.ownBlock ≠ u.ownBlock)
    (hr : Rg 25 w' B v' (vs ++ [u])) (hg : (w.alloc o).grownBy w' v.ownBlock) : LLv w' B v' (vs ++ [u]) (ls ++ [l]) := by
  have h1 := h.alloc o
  have hu1 := hu.alloc o
  refine ⟨hr, by simp [h.len], fun i z m hz hm => ?_, fun i j z y hij hz hy => ?_⟩
  · by_cases hi : i < vs.length
    · rw [List.getElem?_append_left hi] at hz
      rw [List.getElem?_append_left (by rw [← h.len]; exact hi)] at hm
      have := h1.at' i z m hz hm
      exact this.grown hg (rd_not_row this h1.row)
    · rw [List.getElem?_append_right (by omega)] at hz
      rw [List.getElem?_append_right (by rw [← h.len]; omega)] at hm
      by_cases hi0 : i - vs.length = 0
      · rw [hi0] at hz
        rw [← h.len, hi0] at hm
        simp only [List.getElem?_cons_zero, Option.some.injEq] at hz hm
        subst hz; subst hm
        exact hu1.grown hg (rd_not_row hu1 h1.row)
      · rw [List.getElem?_eq_none (by simp; omega)] at hz
        cases hz
  · have hj : j < (vs ++ [u]).length := (List.getElem?_eq_some_iff.1 hy).1
    rw [List.length_append, List.length_singleton] at hj
    rw [List.getElem?_append_left (by omega)] at hz
    by_cases hj2 : j < vs.length
    · rw [List.getElem?_append_left hj2] at hy
      exact h.apart i j z y hij hz hy
    · obtain rfl : j = vs.length := by omega
      rw [List.getElem?_append_right (Nat.le_refl _), Nat.sub_self] at hy
      simp only [List.getElem?_cons_zero, Option.some.injEq] at hy
      subst hy
      exact ha i z hz

theorem cycsTo_len (f : Nat → Nat) (n k : Nat) : (cycsTo f n k).length ≤ k := by
  unfold cycsTo
  rw [List.length_map]
  have := List.length_filter_le (lead f n) (List.range k)
  rw [List.length_range] at this
  exact this

/-- The numbers on cycles that are left before x is looked at. -/
def leftB (f : Nat → Nat) (n x y : Nat) : Bool := cyc f n y && !seenB f n x y
/-- .. with the first j numbers of the cycle of x taken away. -/
def leftJ (f : Nat → Nat) (n x j y : Nat) : Bool := leftB f n x y && !(List.range j).any fun i => it f i x == y

theorem leftJ_zero (f : Nat → Nat) (n x : Nat) : leftJ f n x 0 = leftB f n x := by funext y; simp [leftJ]
theorem leftJ_step (f : Nat → Nat) (n x j : Nat) : adj (leftJ f n x j) (it f j x) false = leftJ f n x (j + 1) := by
  funext y
  unfold adj leftJ
  rw [List.range_succ, List.any_append]
  by_cases e : y = it f j x
  · subst e; simp
  · have e' : (it f j x == y) = false := beq_eq_false_iff_ne.2 (fun h => e h.symm)
    simp [e, e']

theorem leftJ_yes {f : Nat → Nat} {n x j : Nat} (h : Into f n) (hl : lead f n x = true) (hj : j < per f n x) : leftJ f n x j (it f j x) = true := by
  obtain ⟨hc, hmin⟩ := (lead_iff h).1 hl
  have hcj := cyc_it h hc j
  unfold leftJ leftB
  rw [hcj]
  have h1 : seenB f n x (it f j x) = false := by
    rw [Bool.eq_false_iff]
    intro hs
    unfold seenB at hs
    simp only [Bool.and_eq_true, List.any_eq_true, decide_eq_true_eq] at hs
    obtain ⟨_, z, hz, hlt⟩ := hs
    have := hmin z (rnd_trans h hc (mem_rnd.2 ⟨j, hj, rfl⟩) hz)
    omega
  rw [h1]
  simp only [Bool.not_false, Bool.and_true, Bool.true_and, Bool.not_eq_true', List.any_eq_false, beq_iff_eq]
  intro i hi
  rw [List.mem_range] at hi
  exact per_inj h hc hi hj

theorem leftJ_no {f : Nat → Nat} {n x : Nat} (h : Into f n) (hc : cyc f n x = true) : leftJ f n x (per f n x) (it f (per f n x) x) = false := by
  obtain ⟨p1, p2, p3, p4⟩ := per_spec h hc
  rw [p3]
  unfold leftJ
  rw [Bool.and_eq_false_iff]
  right
  simp only [Bool.not_eq_false', List.any_eq_true, beq_iff_eq]
  exact ⟨0, List.mem_range.2 p1, rfl⟩

theorem leftJ_end {f : Nat → Nat} {n x : Nat} (h : Into f n) (hx : x < n) (hc : cyc f n x = true) (y : Nat) : leftJ f n x (per f n x) y = leftB f n (x + 1) y := by
  unfold leftJ leftB
  have h1 : ((List.range (per f n x)).any fun i => it f i x == y) = decide (y ∈ rnd f n x) := by
    rw [Bool.eq_iff_iff, decide_eq_true_iff, mem_rnd, List.any_eq_true]
    simp
  have h2 : seenB f n (x + 1) y = (seenB f n x y || decide (y ∈ rnd f n x)) := by
    rw [Bool.eq_iff_iff, seenB_succ h hx]
    simp [hc]
  rw [h1, h2]
  cases cyc f n y <;> cases seenB f n x y <;> cases decide (y ∈ rnd f n x) <;> rfl

theorem leftB_skip {f : Nat → Nat} {n x : Nat} (h : Into f n) (hx : x < n) (hl : lead f n x = false) (y : Nat) : leftB f n x y = leftB f n (x + 1) y := by
  unfold leftB
  rw [seenB_skip h hx hl]

theorem rnd_take (f : Nat → Nat) (x j : Nat) : nts ((List.range (j + 1)).map fun i => it f i x) = nts ((List.range j).map fun i => it f i x) ++ [((it f j x : Nat) : Int)] := by
  rw [List.range_succ, List.map_append]; simp [nts]

end Go.Proofs.Ytejehmplebjnmaa
