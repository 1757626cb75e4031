/-
  Slices of slices of integers of the call's own: held against each other, marks in them; one put among them. (Made by wip/tools/gen_gapll.py out of earlier texts.)
-/
import Derived.Test.YtnggfcopndcppaaTE
import Derived.Test.YtnggfcopndcppaaK
import Derived.BigQuiet
import Derived.Deep.QuietTactic
import Derived.Test.YtnggfcopndcppaaPW
import Derived.BigRegion
namespace Go.Proofs.Ytnggfcopndcppaa
open Go.RowKit
set_option linter.unusedVariables false
set_option linter.unusedSimpArgs false
set_option maxRecDepth 100000

theorem apart_symm {u v : Value} (h : u.ownBlock = none ∨ u.ownBlock ≠ v.ownBlock) : v.ownBlock = none ∨ v.ownBlock ≠ u.ownBlock := by
  cases hv : v.ownBlock with
  | none => exact .inl rfl
  | some k =>
    right
    rcases h with h | h
    · rw [h]; simp
    · rw [hv] at h; exact fun e => h e.symm
theorem apart_sym2 {u v : Value} (h : u.ownBlock = none ∨ u.ownBlock ≠ v.ownBlock) : v.ownBlock = none ∨ v.ownBlock ≠ u.ownBlock := apart_symm h

theorem rd_rg {w : World} {B : Nat} {v : Value} {xs : List Int} (h : Rd w B v xs) : Rg 3 w B v (xs.map (Value.int .i64)) := by
  unfold Rg
  rw [List.length_map]
  exact h

theorem rows_apart {e e' : TypeId} (he : e ≠ e') {w : World} {B C : Nat} {v u : Value} {xs ys : List Value} (h : Rg e w B v xs) (h2 : Rg e' w C u ys) : v.ownBlock = none ∨ v.ownBlock ≠ u.ownBlock := by
  rcases h.2 with ⟨rfl, _⟩ | ⟨g, cap, cur, rfl, _, hg, _⟩
  · exact .inl rfl
  · right
    rcases h2.2 with ⟨rfl, _⟩ | ⟨g2, cap2, cur2, rfl, _, hg2, _⟩
    · intro e; cases e
    · intro e
      simp only [Value.ownBlock, Option.some.injEq] at e
      subst e
      rw [hg] at hg2
      simp only [Option.some.injEq, Obj.cells.injEq] at hg2
      exact he hg2.2.1

theorem rd_not_row {w : World} {B C : Nat} {v u : Value} {xs : List Int} {vs : List Value} (h : Rd w B v xs) (h2 : Rg 24 w C u vs) : v.ownBlock = none ∨ v.ownBlock ≠ u.ownBlock := rows_apart (by decide) (rd_rg h) h2
theorem row_not_rd {w : World} {B C : Nat} {v u : Value} {xs : List Int} {vs : List Value} (h : Rd w B v xs) (h2 : Rg 24 w C u vs) : u.ownBlock = none ∨ u.ownBlock ≠ v.ownBlock := rows_apart (by decide) h2 (rd_rg h)

/-- A slice of slices: the outer one holds the values vs, which hold the lists ls, each in a block of its own. -/
structure LLi (w : World) (B : Nat) (v : Value) (vs : List Value) (ls : List (List Int)) : Prop where
  row : Rg 24 w B v vs
  len : vs.length = ls.length
  at' : ∀ (i : Nat) (u : Value) (l : List Int), vs[i]? = some u → ls[i]? = some l → Rd w B u l
  apart : ∀ (i j : Nat) (u z : Value), i < j → vs[i]? = some u → vs[j]? = some z → u.ownBlock = none ∨ u.ownBlock ≠ z.ownBlock

theorem LLi.rd {w : World} {B i : Nat} {v u : Value} {vs : List Value} {ls : List (List Int)} (h : LLi w B v vs ls) (hi : vs[i]? = some u) : ∃ l, ls[i]? = some l ∧ Rd w B u l := by
  obtain ⟨h1, _⟩ := List.getElem?_eq_some_iff.1 hi
  have h2 : i < ls.length := by rw [← h.len]; exact h1
  exact ⟨ls[i], by simp [h2], h.at' i u _ hi (by simp [h2])⟩

theorem LLi.nil (w : World) (B : Nat) : LLi w B (.slice none 0 0) [] [] := ⟨Rg.nil _ _ _, rfl, fun i u l h => by simp at h, fun i j u z _ h => by simp at h⟩

theorem LLi.grown {w w' : World} {B : Nat} {v : Value} {vs : List Value} {ls : List (List Int)} {row : Option Nat} (h : LLi w B v vs ls) (hg : w.grownBy w' row) (h1 : v.ownBlock = none ∨ v.ownBlock ≠ row) (h2 : ∀ (i : Nat) (u : Value), vs[i]? = some u → u.ownBlock = none ∨ u.ownBlock ≠ row) : LLi w' B v vs ls :=
  ⟨h.row.grown hg h1, h.len, fun i u l hu hl => (h.at' i u l hu hl).grown hg (h2 i u hu), h.apart⟩
theorem LLi.keep {w w' : World} {B : Nat} {v : Value} {vs : List Value} {ls : List (List Int)} (h : LLi w B v vs ls) (hb : Below w.heap.size w w') : LLi w' B v vs ls :=
  ⟨h.row.keep hb, h.len, fun i u l hu hl => (h.at' i u l hu hl).keep hb, h.apart⟩
theorem LLi.mono {w : World} {B C : Nat} {v : Value} {vs : List Value} {ls : List (List Int)} (h : LLi w B v vs ls) (hC : C ≤ B) : LLi w C v vs ls :=
  ⟨h.row.mono hC, h.len, fun i u l hu hl => (h.at' i u l hu hl).mono hC, h.apart⟩
theorem LLi.alloc {w : World} {B : Nat} {v : Value} {vs : List Value} {ls : List (List Int)} (h : LLi w B v vs ls) (o : Obj) : LLi (w.alloc o) B v vs ls :=
  ⟨h.row.alloc o, h.len, fun i u l hu hl => (h.at' i u l hu hl).alloc o, h.apart⟩

theorem LLi.snoc {w w' : World} {B : Nat} {v v' u : Value} {vs : List Value} {ls : List (List Int)} {l : List Int} {o : Obj} (h : LLi w B v vs ls) (hu : Rd w B u l) (ha : ∀ (i : Nat) (z : Value), vs[i]? = some z → z.ownBlock = none ∨ z.ownBlock ≠ u.ownBlock)
    (hr : Rg 24 w' B v' (vs ++ [u])) (hg : (w.alloc o).grownBy w' v.ownBlock) : LLi w' B v' (vs ++ [u]) (ls ++ [l]) := by
  have h1 := h.alloc o
  have hu1 := hu.alloc o
  refine ⟨hr, by simp [h.len], fun i z m hz hm => ?_, fun i j z y hij hz hy => ?_⟩
  · by_cases hi : i < vs.length
    · rw [List.getElem?_append_left hi] at hz
      rw [List.getElem?_append_left (by rw [← h.len]; exact hi)] at hm
      have := h1.at' i z m hz hm
      exact this.grown hg (rd_not_row this h1.row)
    · rw [List.getElem?_append_right (by omega)] at hz
      rw [List.getElem?_append_right (by rw [← h.len]; omega)] at hm
      by_cases hi0 : i - vs.length = 0
      · rw [hi0] at hz
        rw [← h.len, hi0] at hm
        simp only [List.getElem?_cons_zero, Option.some.injEq] at hz hm
        subst hz; subst hm
        exact hu1.grown hg (rd_not_row hu1 h1.row)
      · rw [List.getElem?_eq_none (by simp; omega)] at hz
        cases hz
  · have hj : j < (vs ++ [u]).length := (List.getElem?_eq_some_iff.1 hy).1
    rw [List.length_append, List.length_singleton] at hj
    rw [List.getElem?_append_left (by omega)] at hz
    by_cases hj2 : j < vs.length
    · rw [List.getElem?_append_left hj2] at hy
      exact h.apart i j z y hij hz hy
    · obtain rfl : j = vs.length := by omega
      rw [List.getElem?_append_right (Nat.le_refl _), Nat.sub_self] at hy
      simp only [List.getElem?_cons_zero, Option.some.injEq] at hy
      subst hy
      exact ha i z hz

/-- A slice of slices by the lists at its places. -/
structure LLf (w : World) (B : Nat) (v : Value) (vs : List Value) (Z : Nat → List Int) : Prop where
  row : Rg 24 w B v vs
  at' : ∀ (i : Nat) (u : Value), vs[i]? = some u → Rd w B u (Z i)
  apart : ∀ (i j : Nat) (u z : Value), i < j → vs[i]? = some u → vs[j]? = some z → u.ownBlock = none ∨ u.ownBlock ≠ z.ownBlock

def lsZ (ls : List (List Int)) (i : Nat) : List Int := ls.getD i []
theorem LLi.f {w : World} {B : Nat} {v : Value} {vs : List Value} {ls : List (List Int)} (h : LLi w B v vs ls) : LLf w B v vs (lsZ ls) :=
  ⟨h.row, fun i u hu => by
    obtain ⟨l, hl, hr⟩ := h.rd hu
    unfold lsZ
    rw [List.getD_eq_getElem?_getD, hl]
    exact hr, h.apart⟩

theorem LLf.shape {w : World} {B : Nat} {v : Value} {vs : List Value} {Z : Nat → List Int} (h : LLf w B v vs Z) : ∃ a cap, v = .slice a vs.length cap ∧ (vs = [] ∨ ∃ gv, a = some ⟨gv, 0, none⟩) := by
  rcases h.row.cases with ⟨rfl, rfl⟩ | ⟨gv, cv, rfl⟩
  · exact ⟨none, 0, rfl, .inl rfl⟩
  · exact ⟨some ⟨gv, 0, none⟩, cv, rfl, .inr ⟨gv, rfl⟩⟩

theorem LLf.keep {w w' : World} {B : Nat} {v : Value} {vs : List Value} {Z : Nat → List Int} (h : LLf w B v vs Z) (hb : Below w.heap.size w w') : LLf w' B v vs Z :=
  ⟨h.row.keep hb, fun i u hu => (h.at' i u hu).keep hb, h.apart⟩
theorem LLf.mono {w : World} {B C : Nat} {v : Value} {vs : List Value} {Z : Nat → List Int} (h : LLf w B v vs Z) (hC : C ≤ B) : LLf w C v vs Z :=
  ⟨h.row.mono hC, fun i u hu => (h.at' i u hu).mono hC, h.apart⟩

/-- All blocks lie below C. -/
def Und (C : Nat) (v : Value) (vs : List Value) : Prop := (∀ k, v.ownBlock = some k → k < C) ∧ ∀ (i : Nat) (u : Value), vs[i]? = some u → ∀ k, u.ownBlock = some k → k < C
theorem LLf.und {w : World} {B : Nat} {v : Value} {vs : List Value} {Z : Nat → List Int} (h : LLf w B v vs Z) : Und w.heap.size v vs :=
  ⟨fun k hk => (h.row.lt k hk).2, fun i u hu k hk => ((h.at' i u hu).lt k hk).2⟩
theorem LLf.keepU {w w' : World} {B C : Nat} {v : Value} {vs : List Value} {Z : Nat → List Int} (h : LLf w B v vs Z) (hu : Und C v vs) (hb : Below C w w') : LLf w' B v vs Z := by
  refine ⟨?_, fun i u hi => (h.at' i u hi).keepB hb (hu.2 i u hi), h.apart⟩
  refine ⟨h.row.1, ?_⟩
  rcases h.row.2 with h2 | ⟨g, cap, cur, rfl, hg, hh, r⟩
  · exact .inl h2
  · exact .inr ⟨g, cap, cur, rfl, hg, by rw [hb.block g (hu.1 g rfl)]; exact hh, r⟩
/-- A marked slice of integers leaves them alone, if it lies apart. -/
theorem LLf.grownR {w w' : World} {B C : Nat} {v x : Value} {vs : List Value} {Z : Nat → List Int} {xs : List Int} (h : LLf w B v vs Z) (hx : Rd w C x xs) (hg : w.grownBy w' x.ownBlock) (ha : ∀ (i : Nat) (u : Value), vs[i]? = some u → u.ownBlock = none ∨ u.ownBlock ≠ x.ownBlock) : LLf w' B v vs Z :=
  ⟨h.row.grown hg (row_not_rd hx h.row), fun i u hu => (h.at' i u hu).grown hg (ha i u hu), h.apart⟩

theorem LLf.cell {w : World} {B gv cv N : Nat} {vs : List Value} {Z : Nat → List Int} (h : LLf w B (.slice (some ⟨gv, 0, none⟩) N cv) vs Z) {i : Nat} {u : Value} (hi : vs[i]? = some u) : w.cell? ⟨gv, i, none⟩ = some u := by
  obtain ⟨i1, i2⟩ := List.getElem?_eq_some_iff.1 hi
  obtain ⟨_, _, _, _, _, hc, _⟩ := h.row.at
  rw [hc i i1, i2]

theorem Rd.shape' {w : World} {B : Nat} {v : Value} {xs : List Int} (h : Rd w B v xs) : ∃ a cap, v = .slice a xs.length cap := by
  rcases h.cases with ⟨rfl, rfl⟩ | ⟨g, cap, rfl, _⟩
  · exact ⟨_, _, rfl⟩
  · exact ⟨_, _, rfl⟩

/-- Where the marks of the i-th slice begin. -/
def offZ (k : Int) (Z : Nat → List Int) : Nat → Int
  | 0 => k
  | i + 1 => offZ k Z i + ((Z i).length : Nat)
def mkZ (k : Int) (Z : Nat → List Int) (j i : Nat) : List Int := if i < j then seqF (offZ k Z i) (Z i).length else Z i

theorem LLf.congr {w : World} {B : Nat} {v : Value} {vs : List Value} {Z Y : Nat → List Int} (h : LLf w B v vs Z) (he : ∀ i, i < vs.length → Z i = Y i) : LLf w B v vs Y :=
  ⟨h.row, fun i u hu => by rw [← he i (List.getElem?_eq_some_iff.1 hu).1]; exact h.at' i u hu, h.apart⟩

theorem LLf.marked {w w' : World} {B j : Nat} {v u : Value} {vs : List Value} {k : Int} {Z : Nat → List Int} (h : LLf w B v vs (mkZ k Z j)) (hj : vs[j]? = some u) (hr : Rd w' B u (seqF (offZ k Z j) (Z j).length)) (hg : w.grownBy w' u.ownBlock) : LLf w' B v vs (mkZ k Z (j + 1)) := by
  refine ⟨h.row.grown hg (row_not_rd (h.at' j u hj) h.row), fun i z hz => ?_, h.apart⟩
  by_cases e : i = j
  · subst e
    rw [hj] at hz
    simp only [Option.some.injEq] at hz
    subst hz
    unfold mkZ
    rw [if_pos (by omega)]
    exact hr
  · have h1 := h.at' i z hz
    have hap : z.ownBlock = none ∨ z.ownBlock ≠ u.ownBlock := by
      by_cases hij : i < j
      · exact h.apart i j z u hij hz hj
      · exact apart_sym2 (h.apart j i u z (by omega) hj hz)
    have h2 := h1.grown hg hap
    unfold mkZ at h2 ⊢
    by_cases hij : i < j
    · rw [if_pos hij] at h2; rw [if_pos (by omega)]; exact h2
    · rw [if_neg hij] at h2; rw [if_neg (by omega)]; exact h2

/-- A slice of one-cell values that is read: nothing, or cells from an address on. -/
def SrcG (w : World) (u : Value) (ys : List Value) : Prop := (u = .slice none 0 0 ∧ ys = []) ∨ ∃ (ad : Addr) (c : Nat), u = .slice (some ad) ys.length c ∧ ∀ j (h : j < ys.length), w.cell? (ad.add j) = some ys[j]

theorem wpList_appGS {w : World} {ops : Array Oper} {rest : List Oper} {o : Oper} {a : Act} {Q : Exit → Act → World → Prop} (hgd : o.guard = none) (s x : Operand) (t e : TypeId) (z : Value) (bytes : Nat)
    (ht : Try.prog.underlying t = some (.slice e)) (hinfo : (Try.prog.info? e).map (fun i => (i.zero, i.size, i.bytes)) = some (some z, 1, bytes)) (hby : bytes ≤ 24) (hz1 : z.cells.size = 1)
    (ho : o.op = .call { callee := .builtin .append, args := #[s, x], argTypes := #[t, t] })
    (B : Nat) (v u : Value) (xs ys : List Value) (hs : a.eval s = v) (hx : a.eval x = u) (hv : Rg e w B v xs) (hu : SrcG w u ys) (h1 : ∀ q ∈ ys, q.oneCell' = true)
    (hlen : xs.length + ys.length ≤ 2000000) (hB : B ≤ w.heap.size)
    (h : ∀ v' w', Rg e w' B v' (xs ++ ys) → w.grownBy w' v.ownBlock → Below B w w' → wpList Try.prog ops Q rest (a.put o.dst v') w') : wpList Try.prog ops Q (o :: rest) a w := by
  obtain ⟨i0, hi, hz0, hz2, hz3⟩ := info_parts hinfo
  have hbel : ∀ w', w.grownBy w' v.ownBlock → Below B w w' := fun w' hg => (Below.refl _ _).grown hg hB (fun k hk => (hv.lt k hk).1)
  rcases hu with ⟨rfl, rfl⟩ | ⟨ad, cap, rfl, hc⟩
  · refine wpList_append_own_none hgd s x t ho B e i0 1 ht hi v xs.length _ hs hv hx ?_
    exact h v w (by simpa using hv) (World.grownBy.refl _ _) (Below.refl _ _)
  · refine wpList_append_own w hgd s x t ho B e i0 z 1 bytes ht hi hz0 hz2 hz3 hz1 (by decide) v xs.length _ hs hv ad ys.length cap ys hx (by simp) ?_ h1 (by unfold maxLen; omega) (by have := Nat.mul_le_mul hlen hby; omega) hB ?_
    · intro j q hj
      have hj' : j < ys.length := (List.getElem?_eq_some_iff.1 hj).1
      rw [hc j hj', ← hj]
      simp [hj']
    · intro v' w' h2 h3 _
      refine h v' w' ?_ h3 (hbel w' h3)
      unfold Rg
      rw [List.length_append]
      exact h2

theorem SrcG.keep {w w' : World} {u : Value} {ys : List Value} (h : SrcG w u ys) (hb : Below w.heap.size w w') : SrcG w' u ys := by
  rcases h with h | ⟨ad, c, h1, h2⟩
  · exact .inl h
  · exact .inr ⟨ad, c, h1, fun j hj => Below.keeps_cell hb (h2 j hj)⟩

theorem rg_empty (e : TypeId) (w : World) : Rg e (w.alloc (.cells #[] e)) w.heap.size (.slice (some ⟨w.heap.size, 0, none⟩) 0 0) [] :=
  World.ownsRow_lit (e := e) (size := 1) (base := w.heap.size) w #[] 0 (Nat.le_refl _) (by unfold maxLen; omega) rfl

theorem ins_get {α : Type} (xs : List α) (u : α) (i : Nat) (hi : i ≤ xs.length) (j : Nat) : (xs.take i ++ [u] ++ xs.drop i)[j]? = if j < i then xs[j]? else if j = i then some u else xs[j - 1]? := by
  have hl : (xs.take i).length = i := by rw [List.length_take]; omega
  by_cases h1 : j < i
  · rw [if_pos h1, List.append_assoc, List.getElem?_append_left (by omega), List.getElem?_take, if_pos h1]
  · rw [if_neg h1]
    by_cases h2 : j = i
    · subst h2
      rw [if_pos rfl, List.append_assoc, List.getElem?_append_right (by omega), hl, Nat.sub_self]
      rfl
    · rw [if_neg h2, List.getElem?_append_right (by simp; omega), List.length_append, hl, List.getElem?_drop, List.length_singleton]
      congr 1
      omega

theorem LLi.apart' {w : World} {B i j : Nat} {v u z : Value} {vs : List Value} {ls : List (List Int)} (h : LLi w B v vs ls) (hij : i ≠ j) (hi : vs[i]? = some u) (hj : vs[j]? = some z) : u.ownBlock = none ∨ u.ownBlock ≠ z.ownBlock := by
  by_cases hlt : i < j
  · exact h.apart i j u z hlt hi hj
  · exact apart_sym2 (h.apart j i z u (by omega) hj hi)

theorem LLi.ins {w w' : World} {B i : Nat} {v v' u : Value} {vs : List Value} {ls : List (List Int)} {l : List Int} (h : LLi w B v vs ls) (hil : i ≤ vs.length) (hu : Rd w B u l) (ha : ∀ (i : Nat) (z : Value), vs[i]? = some z → z.ownBlock = none ∨ z.ownBlock ≠ u.ownBlock)
    (hb : Below w.heap.size w w') (hr : Rg 24 w' B v' (vs.take i ++ [u] ++ vs.drop i)) : LLi w' B v' (vs.take i ++ [u] ++ vs.drop i) (ls.take i ++ [l] ++ ls.drop i) := by
  have hll := h.len
  refine ⟨hr, by simp; omega, fun j z m hz hm => ?_, fun j k z y hjk hz hy => ?_⟩
  · rw [ins_get vs u i hil] at hz
    rw [ins_get ls l i (by omega)] at hm
    by_cases h1 : j < i
    · rw [if_pos h1] at hz hm; exact (h.at' j z m hz hm).keep hb
    · rw [if_neg h1] at hz hm
      by_cases h2 : j = i
      · rw [if_pos h2] at hz hm
        cases hz; cases hm
        exact hu.keep hb
      · rw [if_neg h2] at hz hm; exact (h.at' _ z m hz hm).keep hb
  · rw [ins_get vs u i hil] at hz hy
    by_cases h1 : k < i
    · rw [if_pos h1] at hy; rw [if_pos (by omega)] at hz; exact h.apart' (by omega) hz hy
    · rw [if_neg h1] at hy
      by_cases h2 : k = i
      · rw [if_pos h2] at hy
        rw [if_pos (by omega)] at hz
        cases hy
        exact ha _ z hz
      · rw [if_neg h2] at hy
        by_cases h3 : j < i
        · rw [if_pos h3] at hz; exact h.apart' (by omega) hz hy
        · rw [if_neg h3] at hz
          by_cases h4 : j = i
          · rw [if_pos h4] at hz
            cases hz
            exact apart_sym2 (ha _ y hy)
          · rw [if_neg h4] at hz; exact h.apart' (by omega) hz hy

end Go.Proofs.Ytnggfcopndcppaa
