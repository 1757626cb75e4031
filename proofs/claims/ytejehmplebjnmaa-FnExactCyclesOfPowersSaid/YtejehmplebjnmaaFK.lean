/-
  A cycle's run turned; a slice put among slices.
-/
import Derived.Test.YtejehmplebjnmaaFJ
namespace Go.Proofs.Ytejehmplebjnmaa
open Go.RowKit
set_option linter.unusedVariables false
set_option linter.unusedSimpArgs false
set_option maxRecDepth 100000

theorem miTo_le (xs : List Int) : ∀ k t, t < k → xs.getD (miTo xs k) 0 ≤ xs.getD t 0
  | 0, t, h => absurd h (Nat.not_lt_zero _)
  | k + 1, t, h => by
    rw [miTo_succ]
    by_cases hlt : xs.getD k 0 < xs.getD (miTo xs k) 0
    · rw [if_pos hlt]
      by_cases e : t = k
      · subst e; exact Int.le_refl _
      · have := miTo_le xs k t (by omega); omega
    · rw [if_neg hlt]
      by_cases e : t = k
      · subst e; omega
      · exact miTo_le xs k t (by omega)

theorem run_cyc {f : Nat → Nat} {n M x : Nat} (hi : Into f n) (hc : cyc f n x = true) (h : ∀ k, it f (k + 1) x < M) : tl f M x = 0 ∧ rl f M x = per f n x ∧ run f M x = nts (rnd f n x) := by
  obtain ⟨p1, p2, p3, p4⟩ := per_spec hi hc
  obtain ⟨s1, s2, s3, s4, s5, s6⟩ := rl_spec h
  have hle : per f n x ≤ rl f M x := by
    refine Classical.byContradiction fun hgt => ?_
    exact per_inj hi hc s3 (by omega) s4
  obtain ⟨h1, h2⟩ := rl_at h hle (show 0 < per f n x by omega) (by rw [p3]; rfl)
  refine ⟨h2.symm, h1.symm, ?_⟩
  unfold run nts rnd
  rw [← h1, List.map_map]
  rfl

theorem nts_rnd_get {f : Nat → Nat} {n x i : Nat} (h : i < per f n x) : (nts (rnd f n x))[i]? = some ((it f i x : Nat) : Int) := by
  simp [nts, rnd, h]

theorem turn_rnd {f : Nat → Nat} {n x : Nat} (hi : Into f n) (hc : cyc f n x = true) : ∃ m, m < n ∧ lead f n m = true ∧ m ∈ rnd f n x ∧ turn (nts (rnd f n x)) = nts (rnd f n m) := by
  obtain ⟨p1, p2, p3, p4⟩ := per_spec hi hc
  obtain ⟨xs, hxs⟩ : ∃ xs, xs = nts (rnd f n x) := ⟨_, rfl⟩
  have hlen : xs.length = per f n x := by rw [hxs, nts_len, rnd_len]
  obtain ⟨q, hq⟩ : ∃ q, q = mi xs := ⟨_, rfl⟩
  have hqp : q < per f n x := by rw [hq, ← hlen]; exact mi_lt (by omega)
  have hg : ∀ i, i < per f n x → xs[i]? = some ((it f i x : Nat) : Int) := fun i h => by rw [hxs]; exact nts_rnd_get h
  have hgd : ∀ i, i < per f n x → xs.getD i 0 = ((it f i x : Nat) : Int) := fun i h => by rw [List.getD_eq_getElem?_getD, hg i h]; rfl
  have hcm := cyc_it hi hc q
  have hmr : it f q x ∈ rnd f n x := mem_rnd.2 ⟨q, hqp, rfl⟩
  have hper : per f n (it f q x) = per f n x := by
    refine per_eq hi hcm p1 ?_ fun j j1 j2 he => ?_
    · rw [← it_add, Nat.add_comm, it_add, p3]
    · have e1 : it f (per f n x - q) (it f q x) = x := by rw [← it_add, show per f n x - q + q = per f n x from by omega, p3]
      have e2 : it f j x = x := by
        conv => lhs; rw [← e1]
        rw [← it_add, Nat.add_comm, it_add, he, e1]
      exact p4 j j1 j2 e2
  refine ⟨it f q x, cyc_lt hi hcm, (lead_iff hi).2 ⟨hcm, fun z hz => ?_⟩, hmr, ?_⟩
  · obtain ⟨t, ht, rfl⟩ := mem_rnd.1 (rnd_trans hi hc hmr hz)
    have h1 := miTo_le xs xs.length t (by omega)
    have h2 : xs.getD q 0 ≤ xs.getD t 0 := by rw [hq]; exact h1
    rw [hgd q hqp, hgd t ht] at h2
    omega
  · rw [← hxs]
    unfold turn
    rw [← hq]
    refine List.ext_getElem? fun i => ?_
    by_cases hip : i < per f n x
    · have hr : (nts (rnd f n (it f q x)))[i]? = some ((it f i (it f q x) : Nat) : Int) := nts_rnd_get (by rw [hper]; exact hip)
      rw [hr]
      by_cases hiq : i < per f n x - q
      · rw [List.getElem?_append_left (by rw [List.length_drop, hlen]; exact hiq), List.getElem?_drop, hg _ (by omega), ← it_add, Nat.add_comm]
      · rw [List.getElem?_append_right (by rw [List.length_drop, hlen]; omega), List.length_drop, hlen, List.getElem?_take, if_pos (by omega), hg _ (by omega), ← it_add]
        rw [show i + q = i - (per f n x - q) + per f n x from by omega, it_add, p3]
    · rw [List.getElem?_eq_none (by simp; omega), List.getElem?_eq_none (by rw [nts_len, rnd_len, hper]; omega)]

/-- A slice of one-cell values that is read: nothing, or cells from an address on. -/
def SrcG (w : World) (u : Value) (ys : List Value) : Prop := (u = .slice none 0 0 ∧ ys = []) ∨ ∃ (ad : Addr) (c : Nat), u = .slice (some ad) ys.length c ∧ ∀ j (h : j < ys.length), w.cell? (ad.add j) = some ys[j]

theorem wpList_appGS {w : World} {ops : Array Oper} {rest : List Oper} {o : Oper} {a : Act} {Q : Exit → Act → World → Prop} (hgd : o.guard = none) (s x : Operand) (t e : TypeId) (z : Value) (bytes : Nat)
    (ht : Try.prog.underlying t = some (.slice e)) (hinfo : (Try.prog.info? e).map (fun i => (i.zero, i.size, i.bytes)) = some (some z, 1, bytes)) (hby : bytes ≤ 24) (hz1 : z.cells.size = 1)
    (ho : o.op = .call { callee := .builtin .append, args := #[s, x], argTypes := #[t, t] })
    (B : Nat) (v u : Value) (xs ys : List Value) (hs : a.eval s = v) (hx : a.eval x = u) (hv : Rg e w B v xs) (hu : SrcG w u ys) (h1 : ∀ q ∈ ys, q.oneCell' = true)
    (hlen : xs.length + ys.length ≤ 2000000) (hB : B ≤ w.heap.size)
    (h : ∀ v' w', Rg e w' B v' (xs ++ ys) → w.grownBy w' v.ownBlock → Below B w w' → wpList Try.prog ops Q rest (a.put o.dst v') w') : wpList Try.prog ops Q (o :: rest) a w := by
  obtain ⟨i0, hi, hz0, hz2, hz3⟩ := info_parts hinfo
  have hbel : ∀ w', w.grownBy w' v.ownBlock → Below B w w' := fun w' hg => (Below.refl _ _).grown hg hB (fun k hk => (hv.lt k hk).1)
  rcases hu with ⟨rfl, rfl⟩ | ⟨ad, cap, rfl, hc⟩
  · refine wpList_append_own_none hgd s x t ho B e i0 1 ht hi v xs.length _ hs hv hx ?_
    exact h v w (by simpa using hv) (World.grownBy.refl _ _) (Below.refl _ _)
  · refine wpList_append_own w hgd s x t ho B e i0 z 1 bytes ht hi hz0 hz2 hz3 hz1 (by decide) v xs.length _ hs hv ad ys.length cap ys hx (by simp) ?_ h1 (by unfold maxLen; omega) (by have := Nat.mul_le_mul hlen hby; omega) hB ?_
    · intro j q hj
      have hj' : j < ys.length := (List.getElem?_eq_some_iff.1 hj).1
      rw [hc j hj', ← hj]
      simp [hj']
    · intro v' w' h2 h3 _
      refine h v' w' ?_ h3 (hbel w' h3)
      unfold Rg
      rw [List.length_append]
      exact h2

theorem SrcG.keep {w w' : World} {u : Value} {ys : List Value} (h : SrcG w u ys) (hb : Below w.heap.size w w') : SrcG w' u ys := by
  rcases h with h | ⟨ad, c, h1, h2⟩
  · exact .inl h
  · exact .inr ⟨ad, c, h1, fun j hj => Below.keeps_cell hb (h2 j hj)⟩

theorem rg_empty (e : TypeId) (w : World) : Rg e (w.alloc (.cells #[] e)) w.heap.size (.slice (some ⟨w.heap.size, 0, none⟩) 0 0) [] :=
  World.ownsRow_lit (e := e) (size := 1) (base := w.heap.size) w #[] 0 (Nat.le_refl _) (by unfold maxLen; omega) rfl

theorem ins_get {α : Type} (xs : List α) (u : α) (i : Nat) (hi : i ≤ xs.length) (j : Nat) : (xs.take i ++ [u] ++ xs.drop i)[j]? = if j < i then xs[j]? else if j = i then some u else xs[j - 1]? := by
  have hl : (xs.take i).length = i := by rw [List.length_take]; omega
  by_cases h1 : j < i
  · rw [if_pos h1, List.append_assoc, List.getElem?_append_left (by omega), List.getElem?_take, if_pos h1]
  · rw [if_neg h1]
    by_cases h2 : j = i
    · subst h2
      rw [if_pos rfl, List.append_assoc, List.getElem?_append_right (by omega), hl, Nat.sub_self]
      rfl
    · rw [if_neg h2, List.getElem?_append_right (by simp; omega), List.length_append, hl, List.getElem?_drop, List.length_singleton]
      congr 1
      omega

theorem LLv.apart' {w : World} {B i j : Nat} {v u z : Value} {vs : List Value} {ls : List (List Nat)} (h : LLv w B v vs ls) (hij : i ≠ j) (hi : vs[i]? = some u) (hj : vs[j]? = some z) : u.ownBlock = none ∨ u.ownBlock ≠ z.ownBlock := by
  by_cases hlt : i < j
  · exact h.apart i j u z hlt hi hj
  · exact apart_sym2 (h.apart j i z u (by omega) hj hi)

theorem LLv.ins {w w' : World} {B i : Nat} {v v' u : Value} {vs : List Value} {ls : List (List Nat)} {l : List Nat} (h : LLv w B v vs ls) (hil : i ≤ vs.length) (hu : Rd w B u (nts l)) (ha : ∀ (i : Nat) (z : Value), vs[i]? = some z → z.ownBlock = none ∨ z.ownBlock ≠ u.ownBlock)
    (hb : Below w.heap.size w w') (hr : Rg 25 w' B v' (vs.take i ++ [u] ++ vs.drop i)) : LLv w' B v' (vs.take i ++ [u] ++ vs.drop i) (ls.take i ++ [l] ++ ls.drop i) := by
  have hll := h.len
  refine ⟨hr, by simp; omega, fun j z m hz hm => ?_, fun j k z y hjk hz hy => ?_⟩
  · rw [ins_get vs u i hil] at hz
    rw [ins_get ls l i (by omega)] at hm
    by_cases h1 : j < i
    · rw [if_pos h1] at hz hm; exact (h.at' j z m hz hm).keep hb
    · rw [if_neg h1] at hz hm
      by_cases h2 : j = i
      · rw [if_pos h2] at hz hm
        cases hz; cases hm
        exact hu.keep hb
      · rw [if_neg h2] at hz hm; exact (h.at' _ z m hz hm).keep hb
  · rw [ins_get vs u i hil] at hz hy
    by_cases h1 : k < i
    · rw [if_pos h1] at hy; rw [if_pos (by omega)] at hz; exact h.apart' (by omega) hz hy
    · rw [if_neg h1] at hy
      by_cases h2 : k = i
      · rw [if_pos h2] at hy
        rw [if_pos (by omega)] at hz
        cases hy
        exact ha _ z hz
      · rw [if_neg h2] at hy
        by_cases h3 : j < i
        · rw [if_pos h3] at hz; exact h.apart' (by omega) hz hy
        · rw [if_neg h3] at hz
          by_cases h4 : j = i
          · rw [if_pos h4] at hz
            cases hz
            exact apart_sym2 (ha _ y hy)
          · rw [if_neg h4] at hz; exact h.apart' (by omega) hz hy

/-- A store into a slice of numbers below leaves them alone. -/
theorem LLv.setR {w w' : World} {B C g : Nat} {v x : Value} {vs : List Value} {ls : List (List Nat)} {xs : List Int} (h : LLv w B v vs ls) (hx : Rd w C x xs) (hg : x.ownBlock = some g) (hgB : g < B) (hgr : w.grownBy w' (some g)) : LLv w' B v vs ls := by
  refine h.grown hgr ?_ fun i z hz => ?_
  · have := row_not_rd hx h.row
    rw [hg] at this
    exact this
  · obtain ⟨l, _, hr⟩ := h.rd hz
    cases hq : z.ownBlock with
    | none => exact .inl rfl
    | some q =>
      right
      intro e
      have h1 := (hr.lt q hq).1
      cases e
      omega

end Go.Proofs.Ytejehmplebjnmaa
