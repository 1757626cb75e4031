/-
  The model's list of divisors: its walk.
-/
import Derived.Test.YtedpplonclonkaaWY
import Derived.Test.YtedpplonclonkaaWZ
import Derived.Test.YtedpplonclonkaaVA
import Derived.Test.YtedpplonclonkaaWI
import Derived.Deep.RegionLaw
import Derived.Laws.AppendOwn
import Derived.BigRegion
namespace Go.Proofs.Ytedpplonclonkaa
open Go.RowKit
set_option linter.unusedVariables false
set_option linter.unusedSimpArgs false
set_option maxRecDepth 100000

def ic (D : List Nat) : List Int := D.map fun (x : Nat) => (x : Int)
theorem ic_len (D : List Nat) : (ic D).length = D.length := by simp [ic]
theorem ic_at (D : List Nat) (j : Nat) (h : j < (ic D).length) : (ic D)[j] = ((D.getD j 0 : Nat) : Int) := by
  have h2 : j < D.length := by rw [ic_len] at h; exact h
  rw [getD_at h2]; simp [ic]
theorem ic_set (V : List Nat) (t q : Nat) : (ic V).set t (q : Int) = ic (V.set t q) := by simp [ic, List.map_set]
theorem ic_ins (D : List Nat) (t x : Nat) : (ic D).take t ++ [((x : Nat) : Int)] ++ (ic D).drop t = ic (D.take t ++ [x] ++ D.drop t) := by simp [ic, List.map_take, List.map_drop]

/-- The two lists of the model. -/
structure Pl (w : World) (B n gd cd gv cv : Nat) (D V : List Nat) : Prop where
  d : Rd w B (.slice (some ⟨gd, 0, none⟩) n cd) (ic D)
  v : Rd w B (.slice (some ⟨gv, 0, none⟩) n cv) (ic V)
  ne : gd ≠ gv

theorem Pl.dl {w : World} {B n gd cd gv cv : Nat} {D V : List Nat} (h : Pl w B n gd cd gv cv D V) : D.length = n ∧ V.length = n ∧ n ≤ cd ∧ n ≤ cv := by
  have e1 := h.d.at.1
  have e2 := h.d.at.2.2.2.1
  have e3 := h.v.at.1
  have e4 := h.v.at.2.2.2.1
  rw [ic_len] at e1 e2 e3 e4
  exact ⟨e1.symm, e3.symm, by omega, by omega⟩
theorem Pl.dc {w : World} {B n gd cd gv cv : Nat} {D V : List Nat} (h : Pl w B n gd cd gv cv D V) (j : Nat) (hj : j < n) : w.cell? ⟨gd, j, none⟩ = some (.int .i64 ((D.getD j 0 : Nat) : Int)) := by
  have hl := h.dl.1
  rw [h.d.at.2.2.2.2.1 j (by rw [ic_len]; omega), ic_at]
theorem Pl.vc {w : World} {B n gd cd gv cv : Nat} {D V : List Nat} (h : Pl w B n gd cd gv cv D V) (j : Nat) (hj : j < n) : w.cell? ⟨gv, j, none⟩ = some (.int .i64 ((V.getD j 0 : Nat) : Int)) := by
  have hl := h.dl.2.1
  rw [h.v.at.2.2.2.2.1 j (by rw [ic_len]; omega), ic_at]
theorem Pl.vf {w : World} {B n gd cd gv cv : Nat} {D V : List Nat} (h : Pl w B n gd cd gv cv D V) (j : Nat) : w.frozen? ⟨gv, j, none⟩ = false := h.v.at.2.2.2.2.2 j
theorem Pl.drew {w : World} {B n gd cd gv cv : Nat} {D V : List Nat} (h : Pl w B n gd cd gv cv D V) : Pl w.drew B n gd cd gv cv D V := ⟨h.d.drew, h.v.drew, h.ne⟩
theorem Pl.drewN {w : World} {B n gd cd gv cv : Nat} {D V : List Nat} (h : Pl w B n gd cd gv cv D V) (q : Nat) : Pl (w.drewN q) B n gd cd gv cv D V := ⟨h.d.drewN q, h.v.drewN q, h.ne⟩
theorem Pl.set {w : World} {B n gd cd gv cv : Nat} {D V : List Nat} (h : Pl w B n gd cd gv cv D V) (t q : Nat) : Pl (w.setCell ⟨gv, t, none⟩ (.int .i64 (q : Int))) B n gd cd gv cv D (V.set t q) := by
  have hs := h.v.set t (q : Int)
  refine ⟨h.d.grown hs.2 (.inr ?_), by have := hs.1; rwa [ic_set] at this, h.ne⟩
  intro e
  exact h.ne (by simpa [Value.ownBlock] using e)
theorem Pl.set_below {w : World} {B n gd cd gv cv : Nat} {D V : List Nat} (h : Pl w B n gd cd gv cv D V) (hB : B ≤ w.heap.size) (t q : Nat) : Below B w (w.setCell ⟨gv, t, none⟩ (.int .i64 (q : Int))) :=
  grown_below (h.v.set t (q : Int)).2 hB h.v.at.2.1

theorem SrcV.keep {w w' : World} {u : Value} {ys : List Int} (h : SrcV w u ys) (hb : Below w.heap.size w w') : SrcV w' u ys := by
  rcases h with h | ⟨ad, c, h1, h2⟩
  · exact .inl h
  · exact .inr ⟨ad, c, h1, fun j hj => Below.keeps_cell hb (h2 j hj)⟩
theorem SrcV.drew {w : World} {u : Value} {ys : List Int} (h : SrcV w u ys) : SrcV w.drew u ys := h
theorem SrcV.alloc {w : World} {u : Value} {ys : List Int} (h : SrcV w u ys) (o : Obj) : SrcV (w.alloc o) u ys := h.keep (al_below w o)
theorem srcV_lit (w : World) (q : Int) : SrcV (w.alloc (.cells #[.int .i64 q] 3)) (.slice (some ⟨w.heap.size, 0, none⟩) 1 1) [q] := by
  have h := Rd.lit w q
  refine .inr ⟨_, _, rfl, fun j hj => ?_⟩
  rw [addr_addV, Nat.zero_add]
  exact h.at.2.2.2.2.1 j hj

theorem srcV_one {w : World} {g : Nat} {q : Int} (h : w.cell? ⟨g, 0, none⟩ = some (.int .i64 q)) : SrcV w (.slice (some ⟨g, 0, none⟩) 1 1) [q] := by
  refine .inr ⟨_, _, rfl, fun j hj => ?_⟩
  rw [addr_addV, Nat.zero_add]
  have : j = 0 := by simp at hj; omega
  subst this
  exact h

theorem ownV_any (v : Value) (xs : List Int) (w : World) (h : SrcV w v xs) (hl : xs.length ≤ 2000000) :
    Calls Try.prog 97 #[v] w fun e w' => ∃ u, e = .returned u ∧ Rd w' w.heap.size u xs ∧ Below w.heap.size w w' := by
  have H := Lib.hid h
  clear h
  go_enter Try.func97, Try.ntmps97
  go_wp2_with (at_builtin; refine wpList_appV rfl (.tmp 3) (.tmp 4) rfl w.heap.size _ _ [] xs rfl rfl (rd_emptyV w) (H.out.keep (al_below w _)) (by simp; omega) (by simp) ?_; intro v1 w1 hr1 hg1 hb1; have R1 := Lib.hid hr1; have B1 := Lib.hid ((al_below w (.cells #[] 3)).trans hb1); clear hr1 hg1 hb1)
  go_ret
  exact ⟨_, rfl, by have := R1.out; rwa [List.nil_append] at this, B1.out⟩

/-- An append at a step of a region that draws its order. -/
theorem step_appV {w : World} {ops : Array Oper} {o : Oper} {a : Act} {K : Act → World → Prop} {Q : Exit → Act → World → Prop} {E : Prop} (hgd : o.guard = none) (s x : Operand)
    (ho : o.op = .call { callee := .builtin .append, args := #[s, x], argTypes := #[22, 22] })
    (B : Nat) (v u : Value) (xs ys : List Int) (hs : a.eval s = v) (hx : a.eval x = u) (hv : Rd w B v xs) (hu : SrcV w u ys) (hy : 1 ≤ ys.length ∨ ∃ ad m c, u = .slice (some ad) m c)
    (hlen : xs.length + ys.length ≤ 17179869184) (hB : B ≤ w.heap.size)
    (h : ∀ v' w', Rd w' B v' (xs ++ ys) → w.grownBy w' v.ownBlock → Below B w w' → K (a.put o.dst v') w') :
    if Region.wanted o (yielded ops a.tmps) = true then Oper.wp Try.prog o a w K Q else E := by
  have hw : Region.wanted o (yielded ops a.tmps) = true := by simp [Region.wanted, hgd]
  rw [if_pos hw]
  obtain ⟨i0, hi, hz0, hz1, hz2⟩ := info_parts info3
  obtain ⟨ad, c, hu1, hc⟩ : ∃ ad c, u = .slice (some ad) ys.length c ∧ ∀ j (h : j < ys.length), w.cell? (ad.add j) = some (.int .i64 ys[j]) := by
    rcases hu with ⟨h1, h2⟩ | h
    · exfalso
      rcases hy with hy | ⟨ad, m, c, h3⟩
      · rw [h2] at hy; simp at hy
      · rw [h1] at h3; simp at h3
    · exact h
  rw [hu1] at hx
  obtain ⟨v', w', hr, h2, h3, _⟩ := run_append_own (P := Try.prog) w B 22 o.type 3 i0 (.int .i64 0) 1 8 Try.underlying22 hi hz0 hz1 hz2 rfl (by decide) v xs.length _ hv ad ys.length c (ys.map (Value.int .i64)) (by simp) (fun j q hj => by
    have hj' : j < ys.length := by have := (List.getElem?_eq_some_iff.1 hj).1; simpa using this
    rw [hc j hj', ← hj]
    simp [hj']) (ints_oneCell _ _) (by unfold maxLen; omega) (by omega) hB
  unfold Oper.wp execOp
  simp only [ho, resolve, invoke, builtin, Sem.run_bind, Sem.run_pure, Result.andThen_ok, List.map_toArray, List.map_cons, List.map_nil, hs, hx, hr]
  refine h v' w' ?_ h3 ((Below.refl _ _).grown h3 hB (fun k hk => (hv.lt k hk).1))
  unfold Rd
  rw [List.length_append, List.map_append]
  exact h2

theorem rd_shape {w : World} {B n : Nat} {v : Value} {xs : List Int} (h : Rd w B v xs) (hn : xs.length = n + 1) : ∃ g c, v = .slice (some ⟨g, 0, none⟩) (n + 1) c ∧ B ≤ g ∧ g < w.heap.size := by
  rcases h.cases with ⟨_, h2⟩ | ⟨g, c, h1, h2, h3, _⟩
  · rw [h2] at hn; simp at hn
  · exact ⟨g, c, by rw [h1, hn], h2, h3⟩

theorem Pl.made {B : Nat} {wr w3 w6 : World} {n t X v g3 c3 g6 c6 : Nat} {D V : List Nat} {ds vs : List Int} (hB : B ≤ wr.heap.size) (hds : ds = ic D) (hvs : vs = ic V)
    (r3 : Rd w3 wr.heap.size (.slice (some ⟨g3, 0, none⟩) (n + 1) c3) (ds.take t ++ [(X : Int)] ++ ds.drop t)) (b3 : Below wr.heap.size wr w3)
    (r6 : Rd w6 w3.heap.size (.slice (some ⟨g6, 0, none⟩) (n + 1) c6) (vs.take t ++ [(v : Int)] ++ vs.drop t)) (b6 : Below w3.heap.size w3 w6) (h3 : g3 < w3.heap.size) (h6 : w3.heap.size ≤ g6) :
    Pl w6 B (n + 1) g3 c3 g6 c6 (D.take t ++ [X] ++ D.drop t) (V.take t ++ [v] ++ V.drop t) := by
  subst hds hvs
  rw [ic_ins] at r3 r6
  exact ⟨(r3.keep b6).mono hB, r6.mono (Nat.le_trans hB b3.size), by omega⟩

theorem Pl.start (w : World) : Pl ((w.alloc (.cells #[.int .i64 1] 3)).alloc (.cells #[.int .i64 1] 3)) w.heap.size 1 w.heap.size 1 (w.heap.size + 1) 1 [1] [1] := by
  have h2 := Rd.litB (w.alloc (.cells #[.int .i64 1] 3)) w.heap.size 1 (by simp)
  have hs : (w.alloc (.cells #[.int .i64 1] 3)).heap.size = w.heap.size + 1 := by simp
  rw [hs] at h2
  exact ⟨(Rd.lit w 1).alloc _, h2, by omega⟩

end Go.Proofs.Ytedpplonclonkaa
