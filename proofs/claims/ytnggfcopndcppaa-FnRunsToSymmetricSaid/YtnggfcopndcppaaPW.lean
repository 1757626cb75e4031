/-
  Worlds of stage 2: maps as slices of the call's own, slices of bools, rows of one-cell values.
-/
import Derived.Test.YtnggfcopndcppaaPA
import Derived.Test.YtnggfcopndcppaaE
import Derived.Test.YtnggfcopndcppaaA
namespace Go.Proofs.Ytnggfcopndcppaa
open Go.RowKit
set_option linter.unusedVariables false
set_option linter.unusedSimpArgs false

/-- The numbers F 0 .. F (n - 1). -/
def lst (n : Nat) (F : Nat → Nat) : List Int := (List.range n).map fun (x : Nat) => ((F x : Nat) : Int)
theorem lst_len (n : Nat) (F : Nat → Nat) : (lst n F).length = n := by simp [lst]
theorem lst_at (n : Nat) (F : Nat → Nat) (j : Nat) (h : j < (lst n F).length) : (lst n F)[j] = ((F j : Nat) : Int) := by simp [lst]
theorem lst_congr {n : Nat} {F G : Nat → Nat} (h : ∀ x, x < n → F x = G x) : lst n F = lst n G := by
  unfold lst
  exact List.map_congr_left fun x hx => by rw [h x (List.mem_range.1 hx)]
theorem lst_inj {n : Nat} {F G : Nat → Nat} (h : lst n F = lst n G) (x : Nat) (hx : x < n) : F x = G x := by
  have h1 : (lst n F)[x]? = (lst n G)[x]? := by rw [h]
  simp [lst, hx] at h1
  omega
theorem lst_succ (n : Nat) (F : Nat → Nat) : lst (n + 1) F = lst n F ++ [((F n : Nat) : Int)] := by simp [lst, List.range_succ]

/-- A map that lies in a block of its own from place 0 on. -/
structure Mp (w : World) (g n : Nat) (f : Nat → Nat) : Prop where
  lt : g < w.heap.size
  cell : ∀ j, j < n → w.cell? ⟨g, j, none⟩ = some (.int .i64 ((f j : Nat) : Int))
  into : Into f n
  n0 : 1 ≤ n
  n1 : n ≤ 60

theorem Mp.keep {w w' : World} {g n : Nat} {f : Nat → Nat} (h : Mp w g n f) (hb : Below w.heap.size w w') : Mp w' g n f :=
  ⟨Nat.lt_of_lt_of_le h.lt hb.size, fun j hj => (hb.cell (p := ⟨g, j, none⟩) h.lt).trans (h.cell j hj), h.into, h.n0, h.n1⟩
theorem Mp.keepB {w w' : World} {C g n : Nat} {f : Nat → Nat} (h : Mp w g n f) (hb : Below C w w') (hg : g < C) (hs : w.heap.size ≤ w'.heap.size) : Mp w' g n f :=
  ⟨Nat.lt_of_lt_of_le h.lt hs, fun j hj => (hb.cell (p := ⟨g, j, none⟩) hg).trans (h.cell j hj), h.into, h.n0, h.n1⟩
theorem Mp.drew {w : World} {g n : Nat} {f : Nat → Nat} (h : Mp w g n f) : Mp w.drew g n f := ⟨h.lt, h.cell, h.into, h.n0, h.n1⟩

theorem Rd.mp {w : World} {B g k cap n : Nat} {f : Nat → Nat} (h : Rd w B (.slice (some ⟨g, 0, none⟩) k cap) (lst n f)) (hf : Into f n) (h0 : 1 ≤ n) (h1 : n ≤ 60) : Mp w g n f := by
  obtain ⟨_, _, hg, _, hc, _⟩ := h.at
  refine ⟨hg, fun j hj => ?_, hf, h0, h1⟩
  rw [hc j (by rw [lst_len]; exact hj), lst_at]

/-- One-cell values of a type e in a row of the call's own. -/
def Rg (e : TypeId) (w : World) (B : Nat) (v : Value) (xs : List Value) : Prop := w.ownsRow B e 1 v xs.length xs

theorem Rg.nil (e : TypeId) (w : World) (B : Nat) : Rg e w B (.slice none 0 0) [] := World.ownsRow_nil w B e 1
theorem Rg.mono {e : TypeId} {w : World} {B C : Nat} {v : Value} {xs : List Value} (h : Rg e w B v xs) (hC : C ≤ B) : Rg e w C v xs := by
  refine ⟨h.1, ?_⟩
  rcases h.2 with h2 | ⟨g, cap, cur, hv, hg, r⟩
  · exact .inl h2
  · exact .inr ⟨g, cap, cur, hv, Nat.le_trans hC hg, r⟩
theorem Rg.lt {e : TypeId} {w : World} {B : Nat} {v : Value} {xs : List Value} (h : Rg e w B v xs) : ∀ k, v.ownBlock = some k → B ≤ k ∧ k < w.heap.size := World.ownsRow.lt h
theorem Rg.keep {e : TypeId} {w w' : World} {B : Nat} {v : Value} {xs : List Value} (h : Rg e w B v xs) (hb : Below w.heap.size w w') : Rg e w' B v xs := by
  refine ⟨h.1, ?_⟩
  rcases h.2 with h2 | ⟨g, cap, cur, hv, hg, hh, r⟩
  · exact .inl h2
  · exact .inr ⟨g, cap, cur, hv, hg, by rw [hb.block g (Array.getElem?_eq_some_iff.1 hh).1]; exact hh, r⟩
theorem Rg.grown {e : TypeId} {w w' : World} {B : Nat} {v : Value} {xs : List Value} {row : Option Nat} (h : Rg e w B v xs) (hg : w.grownBy w' row) (hne : v.ownBlock = none ∨ v.ownBlock ≠ row) : Rg e w' B v xs := World.ownsRow.kept h hg hne
theorem Rg.alloc {e : TypeId} {w : World} {B : Nat} {v : Value} {xs : List Value} (h : Rg e w B v xs) (o : Obj) : Rg e (w.alloc o) B v xs := World.ownsRow.alloc h o
theorem Rg.drew {e : TypeId} {w : World} {B : Nat} {v : Value} {xs : List Value} (h : Rg e w B v xs) : Rg e w.drew B v xs := h

theorem Rg.at {e : TypeId} {w : World} {B g n cap : Nat} {xs : List Value} (h : Rg e w B (.slice (some ⟨g, 0, none⟩) n cap) xs) : n = xs.length ∧ B ≤ g ∧ g < w.heap.size ∧ xs.length ≤ cap ∧ cap ≤ maxLen ∧
    (∀ j (hj : j < xs.length), w.cell? ⟨g, j, none⟩ = some xs[j]) ∧ (∀ j, w.frozen? ⟨g, j, none⟩ = false) := by
  have h0 := h
  rcases h.2 with ⟨h1, _⟩ | ⟨g', cap', cur, h1, hg, hh, hn, hm, hc, ht⟩
  · simp at h1
  · simp only [Value.slice.injEq, Option.some.injEq, Addr.mk.injEq, and_true, true_and] at h1
    obtain ⟨rfl, rfl, rfl⟩ := h1
    refine ⟨rfl, hg, (Array.getElem?_eq_some_iff.1 hh).1, hn, hm, fun j hj => ?_, fun j => World.ownsRow.frozenAt (w := w) (base := B) (e := e) (size := 1) (n := xs.length) (xs := xs) (cap := cap) h0 j⟩
    have := World.ownsRow.cellAt (w := w) (base := B) (e := e) (size := 1) (n := xs.length) (xs := xs) (cap := cap) h0 j (by omega)
    rw [this]
    simp [hj]

theorem Rg.cases {e : TypeId} {w : World} {B : Nat} {v : Value} {xs : List Value} (h : Rg e w B v xs) :
    (v = .slice none 0 0 ∧ xs = []) ∨ ∃ g cap, v = .slice (some ⟨g, 0, none⟩) xs.length cap := by
  rcases h.2 with ⟨h1, h2⟩ | ⟨g, cap, cur, rfl, hg, hh, hn, hm, hc, ht⟩
  · exact .inl ⟨h1, List.eq_nil_of_length_eq_zero h2⟩
  · exact .inr ⟨g, cap, rfl⟩

theorem Rg.lit (e : TypeId) (w : World) (B : Nat) (u : Value) (hB : B ≤ w.heap.size) : Rg e (w.alloc (.cells #[u] e)) B (.slice (some ⟨w.heap.size, 0, none⟩) 1 1) [u] :=
  World.ownsRow_lit (e := e) (size := 1) (base := B) w #[u] 1 hB (by unfold maxLen; omega) rfl

theorem Rg.set {e : TypeId} {w : World} {B g n cap : Nat} {xs : List Value} (h : Rg e w B (.slice (some ⟨g, 0, none⟩) n cap) xs) (j : Nat) (u : Value) :
    Rg e (w.setCell ⟨g, j, none⟩ u) B (.slice (some ⟨g, 0, none⟩) n cap) (xs.set j u) ∧ w.grownBy (w.setCell ⟨g, j, none⟩ u) (some g) := by
  obtain ⟨rfl, _⟩ := h.at
  have := World.ownsRow.stored (w := w) (base := B) (e := e) (size := 1) (n := xs.length) (xs := xs) (cap := cap) h j u
  refine ⟨?_, this.2⟩
  unfold Rg
  rw [List.length_set]
  exact this.1

theorem wpList_appG {w : World} {ops : Array Oper} {rest : List Oper} {o : Oper} {a : Act} {Q : Exit → Act → World → Prop} (hgd : o.guard = none) (s x : Operand) (t e : TypeId) (z : Value) (bytes : Nat)
    (ht : Try.prog.underlying t = some (.slice e)) (hinfo : (Try.prog.info? e).map (fun i => (i.zero, i.size, i.bytes)) = some (some z, 1, bytes)) (hby : bytes ≤ 24) (hz1 : z.cells.size = 1)
    (ho : o.op = .call { callee := .builtin .append, args := #[s, x], argTypes := #[t, t] })
    (B C : Nat) (v u : Value) (xs ys : List Value) (hs : a.eval s = v) (hx : a.eval x = u) (hv : Rg e w B v xs) (hu : Rg e w C u ys) (h1 : ∀ q ∈ ys, q.oneCell' = true)
    (hlen : xs.length + ys.length ≤ 2000000) (hB : B ≤ w.heap.size)
    (h : ∀ v' w', Rg e w' B v' (xs ++ ys) → w.grownBy w' v.ownBlock → Below B w w' → wpList Try.prog ops Q rest (a.put o.dst v') w') : wpList Try.prog ops Q (o :: rest) a w := by
  obtain ⟨i0, hi, hz0, hz2, hz3⟩ := info_parts hinfo
  have hbel : ∀ w', w.grownBy w' v.ownBlock → Below B w w' := fun w' hg => (Below.refl _ _).grown hg hB (fun k hk => (hv.lt k hk).1)
  rcases hu.cases with ⟨rfl, rfl⟩ | ⟨g, cap, rfl⟩
  · refine wpList_append_own_none hgd s x t ho B e i0 1 ht hi v xs.length _ hs hv hx ?_
    exact h v w (by simpa using hv) (World.grownBy.refl _ _) (Below.refl _ _)
  · obtain ⟨_, _, _, _, _, hc, _⟩ := hu.at
    refine wpList_append_own w hgd s x t ho B e i0 z 1 bytes ht hi hz0 hz2 hz3 hz1 (by decide) v xs.length _ hs hv ⟨g, 0, none⟩ ys.length cap ys hx (by simp) ?_ h1 (by unfold maxLen; omega) (by have := Nat.mul_le_mul hlen hby; omega) hB ?_
    · intro j q hj
      have hj' : j < ys.length := (List.getElem?_eq_some_iff.1 hj).1
      have e : (⟨g, 0, none⟩ : Addr).add j = ⟨g, j, none⟩ := by unfold Addr.add; split <;> simp_all
      rw [e, hc j hj', ← hj]
      simp [hj']
    · intro v' w' h2 h3 _
      refine h v' w' ?_ h3 (hbel w' h3)
      unfold Rg
      rw [List.length_append]
      exact h2

theorem wpList_mkG {w : World} {ops : Array Oper} {rest : List Oper} {o : Oper} {a : Act} {Q : Exit → Act → World → Prop} (hgd : o.guard = none) (l c : Operand) (t e : TypeId) (z : Value) (bytes : Nat)
    (ht : Try.prog.underlying t = some (.slice e)) (hinfo : (Try.prog.info? e).map (fun i => (i.zero, i.size, i.bytes)) = some (some z, 1, bytes)) (hby : bytes ≤ 24) (hz1 : z.cells = #[z]) (ho : o.op = Op.makeSlice t l c)
    (kl kc : IntKind) (L C : Int) (n : Nat) (hl : a.eval l = .int kl L) (hc : a.eval c = .int kc C) (hL : L = (n : Int)) (hC : C = (n : Int)) (hn : n ≤ 2000000)
    (h : ∀ w', Rg e w' w.heap.size (.slice (some ⟨w.heap.size, 0, none⟩) n n) (List.replicate n z) → w.grownBy w' none → Below w.heap.size w w' → wpList Try.prog ops Q rest (a.put o.dst (.slice (some ⟨w.heap.size, 0, none⟩) n n)) w') :
    wpList Try.prog ops Q (o :: rest) a w := by
  obtain ⟨i0, hi, hz0, hz2, hz3⟩ := info_parts hinfo
  refine wpList_make_full w hgd l c t ho w.heap.size e i0 z 1 ht hi hz0 hz2 kl kc L C n hl hc hL hC (by rw [hz3]; have := Nat.mul_le_mul hby hn; omega) (by unfold maxLen; omega) (Nat.le_refl _) ?_
  intro w' h2 h3
  refine h w' ?_ h3 ((Below.refl _ _).grown h3 (Nat.le_refl _) (fun k hk => by cases hk))
  unfold Rg
  rw [List.length_replicate, ← toList_madeCells_one z n, ← hz1]
  rw [Nat.mul_one] at h2
  exact h2

theorem infoB : (Try.prog.info? 4).map (fun i => (i.zero, i.size, i.bytes)) = some (some (.bool false), 1, 1) := by kernel_rfl
theorem infoL : (Try.prog.info? 24).map (fun i => (i.zero, i.size, i.bytes)) = some (some (.slice none 0 0), 1, 24) := by kernel_rfl
theorem infoT : (Try.prog.info? 9).map (fun i => (i.zero, i.size, i.bytes)) = some (some (.string ⟨#[]⟩), 1, 16) := by kernel_rfl

/-- A slice of bools of the call's own. -/
abbrev Rb (w : World) (B : Nat) (v : Value) (bs : List Bool) : Prop := Rg 4 w B v (bs.map Value.bool)

/-- The bools s 0 .. s (n - 1). -/
def bls (n : Nat) (s : Nat → Bool) : List Bool := (List.range n).map s
theorem bls_len (n : Nat) (s : Nat → Bool) : (bls n s).length = n := by simp [bls]

/-- A slice of bools that lies in a block of its own. -/
structure Bp (w : World) (g n : Nat) (s : Nat → Bool) : Prop where
  lt : g < w.heap.size
  cell : ∀ j, j < n → w.cell? ⟨g, j, none⟩ = some (.bool (s j))

theorem Bp.keep {w w' : World} {g n : Nat} {s : Nat → Bool} (h : Bp w g n s) (hb : Below w.heap.size w w') : Bp w' g n s :=
  ⟨Nat.lt_of_lt_of_le h.lt hb.size, fun j hj => (hb.cell (p := ⟨g, j, none⟩) h.lt).trans (h.cell j hj)⟩

theorem Rb.bp {w : World} {B g k cap n : Nat} {s : Nat → Bool} (h : Rb w B (.slice (some ⟨g, 0, none⟩) k cap) (bls n s)) : Bp w g n s := by
  obtain ⟨_, _, hg, _, _, hc, _⟩ := h.at
  refine ⟨hg, fun j hj => ?_⟩
  rw [hc j (by rw [List.length_map, bls_len]; exact hj)]
  simp [bls]

theorem Rb.frozen {w : World} {B g k cap n : Nat} {s : Nat → Bool} (h : Rb w B (.slice (some ⟨g, 0, none⟩) k cap) (bls n s)) (j : Nat) : w.frozen? ⟨g, j, none⟩ = false := h.at.2.2.2.2.2.2 j

theorem bls_set (n : Nat) (s : Nat → Bool) (x : Nat) (hx : x < n) (q : Bool) : ((bls n s).map Value.bool).set x (.bool q) = (bls n (fun y => if y = x then q else s y)).map Value.bool := by
  apply List.ext_getElem?
  intro j
  by_cases hj : j < n
  · by_cases e : x = j
    · subst e; simp [bls, List.getElem?_set, hx]
    · have e' : ¬ j = x := fun h => e h.symm
      simp [bls, List.getElem?_set, hj, e, e']
  · rw [List.getElem?_eq_none (by simp [bls]; omega), List.getElem?_eq_none (by simp [bls]; omega)]

theorem Rb.set {w : World} {B g n cap : Nat} {s : Nat → Bool} (h : Rb w B (.slice (some ⟨g, 0, none⟩) n cap) (bls n s)) {x : Nat} (hx : x < n) (q : Bool) :
    Rb (w.setCell ⟨g, x, none⟩ (.bool q)) B (.slice (some ⟨g, 0, none⟩) n cap) (bls n (fun y => if y = x then q else s y)) ∧ w.grownBy (w.setCell ⟨g, x, none⟩ (.bool q)) (some g) := by
  have := Rg.set h x (.bool q)
  rw [bls_set n s x hx q] at this
  exact this

theorem bls_rep (n : Nat) : List.replicate n (Value.bool false) = (bls n (fun _ => false)).map Value.bool := by
  simp [bls, List.map_map]
  apply List.ext_getElem?
  intro j
  by_cases hj : j < n
  · simp [hj]
  · rw [List.getElem?_eq_none (by simp; omega), List.getElem?_eq_none (by simp; omega)]

theorem bls_congr {n : Nat} {s t : Nat → Bool} (h : ∀ x, x < n → s x = t x) : bls n s = bls n t := List.map_congr_left fun x hx => h x (List.mem_range.1 hx)

end Go.Proofs.Ytnggfcopndcppaa
