/-
  The memory of what has been told about products: a map of the call's own, its operations for the walk.
-/
import Derived.Test.YtgiabadkbfbilaaWS
import Derived.Test.YtgiabadkbfbilaaPS
namespace Go.Proofs.Ytgiabadkbfbilaa
open Go.RowKit
open Go.Maps (Keyed IsMap Tidy)
set_option linter.unusedVariables false
set_option linter.unusedSimpArgs false
set_option maxRecDepth 100000

/-- How a split reads. -/
def RSl : List Value → Option (DataW Unit × List MemPlace)
  | [.int .i64 x, .int .i64 y, .int .i64 z] => some (.agg [.lit (.int .i64 x), .lit (.int .i64 y), .lit (.int .i64 z)], [])
  | _ => none
def RS (v : Value) : Option (DataW Unit × List MemPlace) := match v with
  | .agg cs => RSl cs.toList
  | _ => none
theorem RS_mk (x y z : Int) : RS (.agg #[.int .i64 x, .int .i64 y, .int .i64 z]) = some (.agg [.lit (.int .i64 x), .lit (.int .i64 y), .lit (.int .i64 z)], []) := rfl
theorem RS_inv {v : Value} {d : DataW Unit} {ps : List MemPlace} (h : RS v = some (d, ps)) : ∃ x y z, v = .agg #[.int .i64 x, .int .i64 y, .int .i64 z] ∧ d = .agg [.lit (.int .i64 x), .lit (.int .i64 y), .lit (.int .i64 z)] := by
  unfold RS at h
  split at h
  · rename_i cs
    unfold RSl at h
    split at h
    · rename_i x y z hc
      simp only [Option.some.injEq, Prod.mk.injEq] at h
      refine ⟨x, y, z, ?_, h.1.symm⟩
      congr 1
      apply Array.ext'
      rw [hc]
    · cases h
  · cases h

abbrev spV (b q : Nat) : Value := .agg #[.int .i64 (ct b q : Nat), .int .i64 ((mf b q).1 : Nat), .int .i64 ((mf b q).2 : Nat)]
def spD (b q : Nat) : DataW Unit := .agg [.lit (.int .i64 (ct b q : Nat)), .lit (.int .i64 ((mf b q).1 : Nat)), .lit (.int .i64 ((mf b q).2 : Nat))]
theorem RS_sp (b q : Nat) : RS (spV b q) = some (spD b q, []) := rfl
theorem RS_spD {v : Value} {b q : Nat} {ps : List MemPlace} (h : RS v = some (spD b q, ps)) : v = spV b q := by
  obtain ⟨x, y, z, rfl, hd⟩ := RS_inv h
  unfold spD at hd
  simp only [DataW.agg.injEq, List.cons.injEq, DataW.lit.injEq, Lit.int.injEq, true_and, and_true] at hd
  obtain ⟨h1, h2, h3⟩ := hd
  rw [← h1, ← h2, ← h3]

theorem kx_keyB (x : Nat) (h : x ≤ 1000000000000) : keyOf Try.prog 3 (.int .i64 (x : Int)) = some (kx x) :=
  Go.Maps.keyOf_int_mk Try.underlying3 (WalkArith.wf_i64 (by omega))

/-- A datum that tells the splits of the products in s. -/
structure MD (D : DataW Unit) (b : Nat) (s : Nat → Bool) : Prop where
  size : Maps.size D = cnt 1000000000001 s
  has : ∀ x : Nat, x < 1000000000001 → Maps.has D (kx x) = s x
  at' : ∀ (x : Nat) (z : DataW Unit), x < 1000000000001 → s x = true → D.atKey (kx x) z = spD b x
  only : ∀ kl, Maps.has D kl = true → ∃ x : Nat, x < 1000000000001 ∧ kl = kx x

/-- Block m is a map of the call's that tells the splits of the products in s. -/
def Sm (w : World) (b m : Nat) (s : Nat → Bool) : Prop := ∃ D : DataW Unit, w.ownsMap Try.prog 3 RS m (cnt 1000000000001 s) D ∧ MD D b s

theorem tightS {w : World} {b k : Nat} {D : DataW Unit} (h : w.ownsMap Try.prog 3 RS b k D) : w.ownsMap Try.prog 3 RS b (Maps.size D) D := by
  obtain ⟨es, clock, hb, F, hs, rfl⟩ := h
  refine ⟨es, clock, hb, F, ?_, rfl⟩
  simp [Maps.size, length_sorted]

theorem Sm.lt {w : World} {b m : Nat} {s : Nat → Bool} (h : Sm w b m s) : m < w.heap.size := by obtain ⟨D, h1, _⟩ := h; exact h1.lt
theorem Sm.kept {w w' : World} {b m : Nat} {s : Nat → Bool} {row : Option Nat} (h : Sm w b m s) (hg : w.grownBy w' row) (hne : some m ≠ row) : Sm w' b m s := by
  obtain ⟨D, h1, h2⟩ := h; exact ⟨D, h1.kept hg hne, h2⟩
theorem Sm.keepB {w w' : World} {C b m : Nat} {s : Nat → Bool} (h : Sm w b m s) (hb : Below C w w') (hl : m < C) : Sm w' b m s := by
  obtain ⟨D, h1, h2⟩ := h
  obtain ⟨es, clock, hbb, F, hs, hD⟩ := h1
  exact ⟨D, ⟨es, clock, by rw [hb.block m hl]; exact hbb, F, hs, hD⟩, h2⟩
theorem Sm.alloc {w : World} {b m : Nat} {s : Nat → Bool} (h : Sm w b m s) (o : Obj) : Sm (w.alloc o) b m s := by
  obtain ⟨D, h1, h2⟩ := h; exact ⟨D, h1.alloc o, h2⟩
theorem Sm.setCell {w : World} {b m : Nat} {s : Nat → Bool} (h : Sm w b m s) (a : Addr) (u : Value) (hne : m ≠ a.block) : Sm (w.setCell a u) b m s := by
  obtain ⟨D, h1, h2⟩ := h
  exact ⟨D, h1.setCell hne u, h2⟩

theorem MD.none (b : Nat) : MD (.map []) b (fun _ => false) :=
  ⟨by rw [cnt_none]; rfl, fun x _ => rfl, fun x _ _ h => (by cases h), fun kl h => (by cases h)⟩

theorem MD.put {D : DataW Unit} {b : Nat} {s : Nat → Bool} (h : MD D b s) (hT : Tidy D) {x : Nat} (hx : x < 1000000000001) (hk : WideAt.IsKeyLit (kx x)) : MD (D.put (kx x) (spD b x)) b (adj s x true) := by
  refine ⟨?_, fun y hy => ?_, fun y z hy hs => ?_, fun kl hkl => ?_⟩
  · rw [Maps.size_put hT, h.has x hx, h.size, cnt_add s x _ hx]
  · by_cases e : y = x
    · subst e; rw [Maps.has_put_same hT.isMap hk]; simp [adj]
    · rw [Maps.has_put_other (fun he => e (kx_inj he)), h.has y hy]; simp [adj, e]
  · by_cases e : y = x
    · subst e; exact Maps.atKey_put_same hT.isMap hk _ _
    · rw [Maps.atKey_put_other (fun he => e (kx_inj he))]
      exact h.at' y z hy (by simpa [adj, e] using hs)
  · by_cases e : kl = kx x
    · exact ⟨x, hx, e⟩
    · rw [Maps.has_put_other e] at hkl; exact h.only kl hkl

theorem Sm.made (w : World) (b : Nat) : Sm (w.alloc (.map #[] 0)) b w.heap.size (fun _ => false) :=
  ⟨_, by rw [cnt_none]; exact World.ownsMap_made w _ _ _, MD.none b⟩

theorem zeroS (w : World) : (zeroValue 122).run Try.prog w = .ok (.agg #[.int .i64 0, .int .i64 0, .int .i64 0]) w := by kernel_rfl

section
variable {w : World} {ops : Array Oper} {rest : List Oper} {o : Oper} {a : Act} {Q : Exit → Act → World → Prop}

/-- 'known[y] = the split of y'. -/
theorem wpList_putM (hg : o.guard = none) (m x v : Operand) (hop : o.op = Op.mapUpdate 117 m x v ∨ o.op = Op.insert 117 m x v) (b k : Nat) (s : Nat → Bool) (y : Nat)
    (hm : a.eval m = .map (some k)) (hx : a.eval x = .int .i64 (y : Int)) (hv : a.eval v = spV b y) (hs : Sm w b k s) (hy : y ≤ 1000000000000)
    (h : ∀ w', Sm w' b k (adj s y true) → w.grownBy w' (some k) → wpList Try.prog ops Q rest (a.put o.dst undef) w') : wpList Try.prog ops Q (o :: rest) a w := by
  obtain ⟨D, hD, hS⟩ := hs
  have hc := cnt_le 1000000000001 s
  refine wpList_plain hg fun K' hK' => ?_
  obtain ⟨w', hrun, r1, r2⟩ := hD.update kI Try.underlying117 (by unfold maxLen; omega) (kx_keyB y hy) (RS_sp b y)
  have h3 := hS.put (hD.tidy kI) (show y < 1000000000001 by omega) trivial
  have h4 : Sm w' b k (adj s y true) := ⟨_, by rw [← h3.size]; exact tightS r1, h3⟩
  unfold Oper.wp
  rcases hop with hop | hop
  · simp [execOp, hop, hm, hx, hv, hrun, Result.andThen]
    exact hK' _ _ (h w' h4 r2)
  · simp [execOp, hop, hm, hx, hv, hrun, Result.andThen]
    exact hK' _ _ (h w' h4 r2)

/-- 'known[y]', and whether it is told. -/
theorem wpList_lookM (hg : o.guard = none) (m x : Operand) (hop : o.op = Op.lookup 117 m x true) (b k : Nat) (s : Nat → Bool) (y : Nat)
    (hm : a.eval m = .map (some k)) (hx : a.eval x = .int .i64 (y : Int)) (hs : Sm w b k s) (hy : y ≤ 1000000000000)
    (h : wpList Try.prog ops Q rest (a.put o.dst (if s y = true then .tuple #[spV b y, .bool true] else .tuple #[.agg #[.int .i64 0, .int .i64 0, .int .i64 0], .bool false])) w) : wpList Try.prog ops Q (o :: rest) a w := by
  obtain ⟨D, hD, hS⟩ := hs
  refine wpList_lookup_own_ok w hg m x 117 hop 3 122 kI Try.underlying117 RS (zeroS w) _ [] (RS_mk 0 0 0) k _ D hm hD _ (kx y) hx (kx_keyB y hy) ?_
  intro v ps hv
  rw [hS.has y (by omega)]
  by_cases e : s y = true
  · rw [hS.at' y _ (by omega) e] at hv
    rw [RS_spD hv, e]
    rw [if_pos e] at h
    exact h
  · have hf : s y = false := by simpa using e
    have hh := hS.has y (by omega)
    rw [hf] at hh
    rw [Go.Maps.atKey_of_not_has hh] at hv
    obtain ⟨x1, y1, z1, rfl, hd⟩ := RS_inv hv
    simp only [DataW.agg.injEq, List.cons.injEq, DataW.lit.injEq, Lit.int.injEq, true_and, and_true] at hd
    obtain ⟨h1, h2, h3⟩ := hd
    rw [if_neg e] at h
    rw [hf, ← h1, ← h2, ← h3]
    exact h

end

end Go.Proofs.Ytgiabadkbfbilaa
