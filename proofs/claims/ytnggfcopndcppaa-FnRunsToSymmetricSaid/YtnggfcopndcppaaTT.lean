/-
  The program's run of a number added to itself backwards: what it leaves behind, in a slice of structs.
-/
import Derived.Test.YtnggfcopndcppaaTP
import Derived.Test.YtnggfcopndcppaaTS
namespace Go.Proofs.Ytnggfcopndcppaa
open Go.RowKit
set_option linter.unusedVariables false
set_option linter.unusedSimpArgs false
set_option maxRecDepth 100000

theorem owns_apart {e e' : TypeId} (he : e ≠ e') {w : World} {B C s s' n m : Nat} {v u : Value} {xs ys : List Value} (h : w.ownsRow B e s v n xs) (h2 : w.ownsRow C e' s' u m ys) : v.ownBlock = none ∨ v.ownBlock ≠ u.ownBlock := by
  rcases h.2 with ⟨rfl, _⟩ | ⟨g, cap, cur, rfl, _, hg, _⟩
  · exact .inl rfl
  · right
    rcases h2.2 with ⟨rfl, _⟩ | ⟨g2, cap2, cur2, rfl, _, hg2, _⟩
    · intro e; cases e
    · intro e
      simp only [Value.ownBlock, Option.some.injEq] at e
      subst e
      rw [hg] at hg2
      simp only [Option.some.injEq, Obj.cells.injEq] at hg2
      exact he hg2.2.1

/-- Cells of numbers by their digits. -/
def flatL (b : Int) (vs : List Value) : List Value := vs.flatMap fun u => [u, .int .i64 b]
theorem flatL_len (b : Int) (vs : List Value) : (flatL b vs).length = vs.length * 2 := by
  induction vs with
  | nil => rfl
  | cons a t ih =>
    have : flatL b (a :: t) = [a, .int .i64 b] ++ flatL b t := rfl
    rw [this, List.length_append, ih]; simp; omega
theorem flatL_snoc (b : Int) (vs : List Value) (u : Value) : flatL b (vs ++ [u]) = flatL b vs ++ [u, .int .i64 b] := by
  unfold flatL; rw [List.flatMap_append]; rfl
theorem flatL_at (b : Int) (vs : List Value) : ∀ (i : Nat) (u : Value), vs[i]? = some u → (flatL b vs)[i * 2]? = some u ∧ (flatL b vs)[i * 2 + 1]? = some (.int .i64 b) := by
  induction vs with
  | nil => intro i u h; simp at h
  | cons a t ih =>
    intro i u h
    have hc : flatL b (a :: t) = a :: .int .i64 b :: flatL b t := rfl
    rw [hc]
    cases i with
    | zero => simp at h; subst h; exact ⟨rfl, rfl⟩
    | succ i =>
      have := ih i u (by simpa using h)
      rw [show (i + 1) * 2 = i * 2 + 1 + 1 by omega]
      simpa using this

/-- What a run has left behind: numbers by their digits, each in a block of its own. -/
structure Lf (w : World) (B D : Nat) (v : Value) (b : Int) (vs : List Value) (ls : List (List Int)) : Prop where
  row : w.ownsRow B 56 2 v vs.length (flatL b vs)
  len : vs.length = ls.length
  at' : ∀ (i : Nat) (u : Value) (l : List Int), vs[i]? = some u → ls[i]? = some l → Rd w D u l
  apart : ∀ (i j : Nat) (u z : Value), i < j → vs[i]? = some u → vs[j]? = some z → u.ownBlock = none ∨ u.ownBlock ≠ z.ownBlock

theorem owns_keep {w w' : World} {B n size : Nat} {e : TypeId} {v : Value} {xs : List Value} (h : w.ownsRow B e size v n xs) (hb : Below w.heap.size w w') : w'.ownsRow B e size v n xs := by
  refine ⟨h.1, ?_⟩
  rcases h.2 with h2 | ⟨g, cap, cur, hv, hg, hh, r⟩
  · exact .inl h2
  · exact .inr ⟨g, cap, cur, hv, hg, by rw [hb.block g (Array.getElem?_eq_some_iff.1 hh).1]; exact hh, r⟩
theorem owns_mono {w : World} {B C n size : Nat} {e : TypeId} {v : Value} {xs : List Value} (h : w.ownsRow B e size v n xs) (hC : C ≤ B) : w.ownsRow C e size v n xs := by
  refine ⟨h.1, ?_⟩
  rcases h.2 with h2 | ⟨g, cap, cur, hv, hg, r⟩
  · exact .inl h2
  · exact .inr ⟨g, cap, cur, hv, Nat.le_trans hC hg, r⟩
theorem rd_owns {w : World} {B : Nat} {v : Value} {xs : List Int} (h : Rd w B v xs) : w.ownsRow B 3 1 v xs.length (xs.map (Value.int .i64)) := h

theorem Lf.nil (w : World) (B D : Nat) (b : Int) : Lf w B D (.slice none 0 0) b [] [] := ⟨World.ownsRow_nil w B _ _, rfl, fun i u l h => by simp at h, fun i j u z _ h => by simp at h⟩
theorem Lf.keep {w w' : World} {B D : Nat} {v : Value} {b : Int} {vs : List Value} {ls : List (List Int)} (h : Lf w B D v b vs ls) (hb : Below w.heap.size w w') : Lf w' B D v b vs ls :=
  ⟨owns_keep h.row hb, h.len, fun i u l hu hl => (h.at' i u l hu hl).keep hb, h.apart⟩
theorem Lf.mono {w : World} {B C D : Nat} {v : Value} {b : Int} {vs : List Value} {ls : List (List Int)} (h : Lf w B D v b vs ls) (hC : C ≤ B) : Lf w C D v b vs ls :=
  ⟨owns_mono h.row hC, h.len, h.at', h.apart⟩
theorem Lf.rd {w : World} {B D i : Nat} {v u : Value} {b : Int} {vs : List Value} {ls : List (List Int)} (h : Lf w B D v b vs ls) (hi : vs[i]? = some u) : ∃ l, ls[i]? = some l ∧ Rd w D u l := by
  obtain ⟨h1, _⟩ := List.getElem?_eq_some_iff.1 hi
  have h2 : i < ls.length := by rw [← h.len]; exact h1
  exact ⟨ls[i], by simp [h2], h.at' i u _ hi (by simp [h2])⟩
/-- A write into a block of another type. -/
theorem Lf.grown {w w' : World} {B D C n s : Nat} {e : TypeId} {v u : Value} {b : Int} {vs ys : List Value} {ls : List (List Int)} (h : Lf w B D v b vs ls) (hg : w.grownBy w' u.ownBlock) (hu : w.ownsRow C e s u n ys) (h1 : 56 ≠ e) (h2 : 3 ≠ e) : Lf w' B D v b vs ls :=
  ⟨World.ownsRow.kept h.row hg (owns_apart h1 h.row hu), h.len, fun i z l hz hl => (h.at' i z l hz hl).grown hg (owns_apart h2 (h.at' i z l hz hl) hu), h.apart⟩
theorem Lf.far {w w' : World} {B D E : Nat} {v u : Value} {b : Int} {vs : List Value} {ls : List (List Int)} {xs : List Int} (h : Lf w B D v b vs ls) (hw : w.heap.size ≤ E) (hu : Rd w' E u xs) : ∀ (i : Nat) (z : Value), vs[i]? = some z → z.ownBlock = none ∨ z.ownBlock ≠ u.ownBlock := fun i z hz => by
  obtain ⟨l, hl, hr⟩ := h.rd hz
  cases ho : z.ownBlock with
  | none => exact .inl rfl
  | some q =>
    refine .inr (fun e => ?_)
    have h1 := (hr.lt q ho).2
    have h2 := (hu.lt q e.symm).1
    omega

theorem infoLN3 : (Try.prog.info? 56).map (fun i => (i.zero, i.size, i.bytes)) = some (some (.agg #[.slice none 0 0, .int .i64 0]), 2, 32) := by kernel_rfl

/-- One number by its digits behind others. -/
theorem wpList_appLN {w : World} {ops : Array Oper} {rest : List Oper} {o : Oper} {a : Act} {Q : Exit → Act → World → Prop} (hgd : o.guard = none) (s x : Operand)
    (ho : o.op = .call { callee := .builtin .append, args := #[s, x], argTypes := #[73, 73] })
    (B g : Nat) (v : Value) (b : Int) (vs : List Value) (z : Value) (hs : a.eval s = v) (hx : a.eval x = .slice (some ⟨g, 0, none⟩) 1 1) (hv : w.ownsRow B 56 2 v vs.length (flatL b vs))
    (h0 : w.cell? ⟨g, 0, none⟩ = some z) (h1 : w.cell? ⟨g, 1, none⟩ = some (.int .i64 b)) (hz : z.oneCell' = true) (hlen : vs.length ≤ 100000) (hB : B ≤ w.heap.size)
    (h : ∀ v' w', w'.ownsRow B 56 2 v' (vs ++ [z]).length (flatL b (vs ++ [z])) → w.grownBy w' v.ownBlock → Below B w w' → wpList Try.prog ops Q rest (a.put o.dst v') w') : wpList Try.prog ops Q (o :: rest) a w := by
  obtain ⟨i0, hi, hz0, hz1, hz2⟩ := info_parts infoLN3
  have hbel : ∀ w', w.grownBy w' v.ownBlock → Below B w w' := fun w' hg => (Below.refl _ _).grown hg hB (fun k hk => (World.ownsRow.lt hv k hk).1)
  refine wpList_append_own w hgd s x 73 ho B 56 i0 _ 2 32 Try.underlying73 hi hz0 hz1 hz2 rfl (by decide) v vs.length _ hs hv ⟨g, 0, none⟩ 1 1 [z, .int .i64 b] hx rfl ?_ ?_ (by unfold maxLen; omega) (by omega) hB ?_
  · intro j q hj
    rw [addr_add, Nat.zero_add]
    match j, hj with
    | 0, hj => simp at hj; subst hj; exact h0
    | 1, hj => simp at hj; subst hj; exact h1
    | j + 2, hj => simp at hj
  · intro q hq
    simp at hq
    rcases hq with rfl | rfl
    · exact hz
    · rfl
  · intro v' w' h2 h3 _
    refine h v' w' ?_ h3 (hbel w' h3)
    rw [flatL_snoc, List.length_append, List.length_singleton]
    exact h2

theorem Lf.snoc {w w' : World} {B D : Nat} {v v' u : Value} {b : Int} {vs : List Value} {ls : List (List Int)} {l : List Int} (h : Lf w B D v b vs ls) (hu : Rd w D u l) (ha : ∀ (i : Nat) (z : Value), vs[i]? = some z → z.ownBlock = none ∨ z.ownBlock ≠ u.ownBlock)
    (hr : w'.ownsRow B 56 2 v' (vs ++ [u]).length (flatL b (vs ++ [u]))) (hg : w.grownBy w' v.ownBlock) : Lf w' B D v' b (vs ++ [u]) (ls ++ [l]) := by
  have hk : ∀ {z : Value} {m : List Int}, Rd w D z m → Rd w' D z m := fun hz => hz.grown hg (owns_apart (by decide) hz h.row)
  refine ⟨hr, by simp [h.len], fun i z m hz hm => ?_, fun i j z y hij hz hy => ?_⟩
  · by_cases hi : i < vs.length
    · rw [List.getElem?_append_left hi] at hz
      rw [List.getElem?_append_left (by rw [← h.len]; exact hi)] at hm
      exact hk (h.at' i z m hz hm)
    · rw [List.getElem?_append_right (by omega)] at hz
      rw [List.getElem?_append_right (by rw [← h.len]; omega)] at hm
      by_cases hi0 : i - vs.length = 0
      · rw [hi0] at hz
        rw [← h.len, hi0] at hm
        simp only [List.getElem?_cons_zero, Option.some.injEq] at hz hm
        subst hz; subst hm
        exact hk hu
      · rw [List.getElem?_eq_none (by simp; omega)] at hz
        cases hz
  · have hj : j < (vs ++ [u]).length := (List.getElem?_eq_some_iff.1 hy).1
    rw [List.length_append, List.length_singleton] at hj
    rw [List.getElem?_append_left (by omega)] at hz
    by_cases hj2 : j < vs.length
    · rw [List.getElem?_append_left hj2] at hy
      exact h.apart i j z y hij hz hy
    · rw [List.getElem?_append_right (by omega), show j - vs.length = 0 by omega] at hy
      simp only [List.getElem?_cons_zero, Option.some.injEq] at hy
      subst hy
      exact ha i z hz

end Go.Proofs.Ytnggfcopndcppaa
