/-
  Joint text of CY: what each proves stands ahead of it.
-/
import Derived.Test.YtlbjeiaihenjkaaGreatDoorJ39
/- from CY: The model executes a line.  -/
namespace Go.Proofs.YtlbjeiaihenjkaaGreatDoor
open Go.RowKit
set_option linter.unusedVariables false
set_option linter.unusedSimpArgs false
set_option maxRecDepth 100000

/-- What a line's list of numbers is. -/
def NvA (w : World) (nv : Value) : Option Int → Prop
  | none => nv = .slice none 0 0
  | some k => ∃ p cp, nv = .slice (some ⟨p, 0, none⟩) 1 cp ∧ w.cell? ⟨p, 0, none⟩ = some (.int .i64 k) ∧ p < w.heap.size
theorem NvA.keep {w w' : World} {nv : Value} {o : Option Int} (h : NvA w nv o) (hb : Below w.heap.size w w') : NvA w' nv o := by
  cases o with
  | none => exact h
  | some k =>
    obtain ⟨p, cp, h1, h2, h3⟩ := h
    exact ⟨p, cp, h1, (hb.cell (p := ⟨p, 0, none⟩) h3).trans h2, Nat.lt_of_lt_of_le h3 hb.size⟩
theorem NvA.shape {w : World} {nv : Value} {o : Option Int} (h : NvA w nv o) : ∃ a L c, nv = .slice a L c := by
  cases o with
  | none => exact ⟨none, 0, 0, h⟩
  | some k => obtain ⟨p, cp, h1, _, _⟩ := h; exact ⟨_, _, _, h1⟩
theorem ln_new (w : World) (n b m : Int) (t : Tx) (nv : Value) : Ln (w.alloc (.cells #[.int .i64 n, .int .i64 b, .int .i64 m, .string ⟨t.toArray⟩, nv] 86)) w.heap.size n b m t nv :=
  ⟨by simp, by simp [go_sem], by simp [go_sem], by simp [go_sem], by simp [go_sem], by simp [go_sem], fun j => by simp [go_sem]⟩

/-- A block of two cells that may be written. -/
structure Box2 (w : World) (s : Nat) : Prop where
  cell : ∀ j, j < 2 → ∃ y, w.cell? ⟨s, j, none⟩ = some y
  free : ∀ j, w.frozen? ⟨s, j, none⟩ = false
theorem Box2.keep {w w' : World} {s B : Nat} (h : Box2 w s) (hb : Below B w w') (hs : s < B) : Box2 w' s :=
  ⟨fun j hj => by obtain ⟨y, hy⟩ := h.cell j hj; exact ⟨y, (hb.cell (p := ⟨s, j, none⟩) hs).trans hy⟩, fun j => (hb.frozen (p := ⟨s, j, none⟩) hs).trans (h.free j)⟩
abbrev set2 (w : World) (s : Nat) (x0 x1 : Value) : World := (w.setCell ⟨s, 0, none⟩ x0).setCell ⟨s, 1, none⟩ x1
theorem set2_cells {w : World} {s : Nat} (h : Box2 w s) (x0 x1 : Value) : (set2 w s x0 x1).cell? ⟨s, 0, none⟩ = some x0 ∧ (set2 w s x0 x1).cell? ⟨s, 1, none⟩ = some x1 := by
  obtain ⟨y0, h0⟩ := h.cell 0 (by omega)
  obtain ⟨y1, h1⟩ := h.cell 1 (by omega)
  have ne : (⟨s, 0, none⟩ : Addr) ≠ ⟨s, 1, none⟩ := fun e => by simp at e
  have o := World.cell?_setCell_other
  refine ⟨?_, ?_⟩
  · rw [o _ _ _ _ (Ne.symm ne)]
    exact World.cell?_setCell_same _ _ _ h0
  · exact World.cell?_setCell_same _ _ _ ((o _ _ _ _ ne).trans h1)
theorem set2_below {B : Nat} {w0 w : World} {s : Nat} (hb : Below B w0 w) (hs : B ≤ s) (x0 x1 : Value) : Below B w0 (set2 w s x0 x1) := (hb.setCell (p := ⟨s, 0, none⟩) hs _).setCell (p := ⟨s, 1, none⟩) hs _
theorem ret_dk2 {fn : Func} {p u : Tmp} (h : fn.results = #[.cell p 24, .tmp u]) (tmps : Array Value) (w : World) (s : Nat) (n b : Int) (hp : tmps.getD p undef = .pointer (some ⟨s, 0, none⟩)) (hB : Box2 w s) :
    (results fn tmps).run Tryz.prog (set2 w s (.int .i64 n) (.int .i64 b)) = .ok (.tuple #[dsk n b, tmps.getD u undef]) (set2 w s (.int .i64 n) (.int .i64 b)) := by
  obtain ⟨h0, h1⟩ := set2_cells hB (.int .i64 n) (.int .i64 b)
  have key : ∀ W : World, W.cell? ⟨s, 0, none⟩ = some (.int .i64 n) → W.cell? ⟨s, 1, none⟩ = some (.int .i64 b) → (results fn tmps).run Tryz.prog W = .ok (.tuple #[dsk n b, tmps.getD u undef]) W := fun W h0 h1 =>
    results_two h tmps W s _ hp (load_dk W s n b h0 h1)
  exact key _ h0 h1

/-- The function's own desk in block A, the place of its result behind it. -/
theorem cs_facts (w : World) (n b : Int) (w' : World) (hb : Below (w.heap.size + 2) ((w.alloc (.cells #[.int .i64 n, .int .i64 b] 24)).alloc (.cells #[.int .i64 0, .int .i64 0] 24)) w') :
    w'.cell? ⟨w.heap.size, 0, none⟩ = some (.int .i64 n) ∧ w'.cell? ⟨w.heap.size, 1, none⟩ = some (.int .i64 b) ∧ Box2 w' (w.heap.size + 1) ∧ Below w.heap.size w w' ∧ w.heap.size + 2 ≤ w'.heap.size := by
  have c := fun (s j : Nat) (hs : s < w.heap.size + 2) => hb.cell (p := ⟨s, j, none⟩) hs
  have f := fun (s j : Nat) (hs : s < w.heap.size + 2) => hb.frozen (p := ⟨s, j, none⟩) hs
  have hsz := hb.size
  refine ⟨(c _ 0 (by omega)).trans (by simp [go_sem]), (c _ 1 (by omega)).trans (by simp [go_sem]), ⟨fun j hj => ?_, fun j => (f _ j (by omega)).trans (by simp [go_sem])⟩, (two_below w _ _).trans (hb.mono (by omega)), by simp at hsz; omega⟩
  rw [c _ j (by omega)]
  match j, hj with
  | 0, _ => exact ⟨.int .i64 0, by simp [go_sem]⟩
  | 1, _ => exact ⟨.int .i64 0, by simp [go_sem]⟩
  | j + 2, h => omega

set_option maxHeartbeats 4000000 in
theorem step_what (n b : Int) (s : Tx) (w : World) (HR : ∀ W, Calls Tryz.prog 54 #[dsk n b, str s] W fun e w' => (∃ z t a L c, e = .returned (.tuple #[str [], lnV n b z t (.slice a L c), .bool false])) ∧ Below W.heap.size W w') :
    Calls Tryz.prog 35 #[dsk n b, str s] w fun e w' => e = .returned (.tuple #[dsk n b, str [119, 104, 97, 116]]) ∧ Below w.heap.size w w' := by
  have H := Lib.hid HR
  have CF := Lib.hid (cs_facts w n b)
  clear HR
  go_enter Tryz.func35, Tryz.ntmps35
  go_wp2_with fail
  refine (H.out _).mono ?_
  rintro e w1 ⟨⟨z, t, a, L, c, rfl⟩, hb⟩
  obtain ⟨k0, k1, B2, hb1, hsz⟩ := CF.out w1 (hb.mono (by simp))
  have HA := Lib.hid (alloc_belowD w1 (.cells #[.int .i64 n, .int .i64 b, .int .i64 z, .string ⟨t.toArray⟩, .slice a L c] 86))
  have HBX := Lib.hid (B2.keep HA.out (by omega))
  have HB := Lib.hid (hb1.trans (HA.out.mono hb1.size))
  have K0 := (HA.out.cell (p := ⟨w.heap.size, 0, none⟩) (by show w.heap.size < w1.heap.size; omega)).trans k0
  have K1 := (HA.out.cell (p := ⟨w.heap.size, 1, none⟩) (by show w.heap.size < w1.heap.size; omega)).trans k1
  obtain ⟨y0, e0⟩ := HBX.out.cell 0 (by omega)
  obtain ⟨y1, e1⟩ := HBX.out.cell 1 (by omega)
  have ef := HBX.out.free
  clear hb k0 k1 B2 hb1
  go_wp2
  refine bodyPost_ret (ret_dk2 rfl _ _ (w.heap.size + 1) _ _ rfl HBX.out) rfl ?_
  exact ⟨rfl, set2_below HB.out (by omega) _ _⟩

theorem Gv.below {w w' : World} {g : Nat} {n b : Int} (h : Gv w w' g n b) (hg : g < w.heap.size) : Below g w w' := ⟨h.grown.os, h.grown.tape, h.grown.output, h.grown.size, fun k hk => h.grown.block k (by omega) (fun e => by cases e; omega)⟩
set_option maxHeartbeats 4000000 in
theorem step_m_take (n b m n' b' : Int) (t T s x : Tx) (o : Option Int) (hx : x = [116, 97, 107, 101]) (w : World) (HR : ∀ W, Calls Tryz.prog 54 #[dsk n b, str s] W fun e w' => (∃ nv, e = .returned (.tuple #[str x, lnV n b m t nv, .bool true]) ∧ NvA w' nv o) ∧ Below W.heap.size W w')
    (HM : ∀ W g nv, Ln W g n b m t nv → NvA W nv o → Calls Tryz.prog 55 #[.pointer (some ⟨g, 0, none⟩), str x] W fun e w' => e = .returned (str T) ∧ Gv W w' g n' b') :
    Calls Tryz.prog 35 #[dsk n b, str s] w fun e w' => e = .returned (.tuple #[dsk n' b', str T]) ∧ Below w.heap.size w w' := by
  have q0 : (x == [116, 97, 107, 101]) = true := by rw [hx]; rfl
  clear hx
  have CF := Lib.hid (cs_facts w n b)
  have H := Lib.hid HR
  have HMM := Lib.hid HM
  clear HR HM
  go_enter Tryz.func35, Tryz.ntmps35
  go_wp2_with fail
  refine (H.out _).mono ?_
  rintro e w1 ⟨⟨nv, rfl, hnv⟩, hb⟩
  have HNV := Lib.hid hnv
  obtain ⟨a, L, c, hsh⟩ := hnv.shape
  subst hsh
  obtain ⟨k0, k1, B2, hb1, hsz⟩ := CF.out w1 (hb.mono (by simp))
  obtain ⟨W2, hW2⟩ : ∃ W2 : World, W2 = w1.alloc (.cells #[.int .i64 n, .int .i64 b, .int .i64 m, .string ⟨t.toArray⟩, .slice a L c] 86) := ⟨_, rfl⟩
  have HA := Lib.hid (show Below w1.heap.size w1 W2 by rw [hW2]; exact alloc_belowD _ _)
  have HLN := Lib.hid (show Ln W2 w1.heap.size n b m t (.slice a L c) by rw [hW2]; exact ln_new _ _ _ _ _ _)
  have HNV2 := Lib.hid (HNV.out.keep HA.out)
  have HSZ := Lib.hid hsz
  have HB2 := Lib.hid B2
  have HB := Lib.hid (hb1.trans (HA.out.mono hb1.size))
  clear hb B2 hb1 hsz k0 k1 hnv
  go_wp2_with fail
  rw [← hW2]
  refine (HMM.out W2 _ _ HLN.out HNV2.out).mono ?_
  rintro e w2 ⟨rfl, hg⟩
  have hbg := hg.below HLN.out.lt
  have c0 := hg.c0
  have c1 := hg.c1
  have HBX := Lib.hid (HB2.out.keep (HA.out.trans hbg) (by have := HSZ.out; omega))
  have HB3 := Lib.hid (HB.out.trans (hbg.mono (by have := HSZ.out; omega)))
  obtain ⟨y0, e0⟩ := HBX.out.cell 0 (by omega)
  obtain ⟨y1, e1⟩ := HBX.out.cell 1 (by omega)
  have ef := HBX.out.free
  clear hg hbg hW2
  go_wp2
  refine bodyPost_ret (ret_dk2 rfl _ _ (w.heap.size + 1) _ _ rfl HBX.out) rfl ?_
  exact ⟨rfl, set2_below HB3.out (by omega) _ _⟩
set_option maxHeartbeats 4000000 in
theorem step_m_base (n b m n' b' : Int) (t T s x : Tx) (o : Option Int) (hx : x = [98, 97, 115, 101]) (w : World) (HR : ∀ W, Calls Tryz.prog 54 #[dsk n b, str s] W fun e w' => (∃ nv, e = .returned (.tuple #[str x, lnV n b m t nv, .bool true]) ∧ NvA w' nv o) ∧ Below W.heap.size W w')
    (HM : ∀ W g nv, Ln W g n b m t nv → NvA W nv o → Calls Tryz.prog 55 #[.pointer (some ⟨g, 0, none⟩), str x] W fun e w' => e = .returned (str T) ∧ Gv W w' g n' b') :
    Calls Tryz.prog 35 #[dsk n b, str s] w fun e w' => e = .returned (.tuple #[dsk n' b', str T]) ∧ Below w.heap.size w w' := by
  have q0 : (x == [116, 97, 107, 101]) = false := by rw [hx]; rfl
  have q1 : (x == [98, 97, 115, 101]) = true := by rw [hx]; rfl
  clear hx
  have CF := Lib.hid (cs_facts w n b)
  have H := Lib.hid HR
  have HMM := Lib.hid HM
  clear HR HM
  go_enter Tryz.func35, Tryz.ntmps35
  go_wp2_with fail
  refine (H.out _).mono ?_
  rintro e w1 ⟨⟨nv, rfl, hnv⟩, hb⟩
  have HNV := Lib.hid hnv
  obtain ⟨a, L, c, hsh⟩ := hnv.shape
  subst hsh
  obtain ⟨k0, k1, B2, hb1, hsz⟩ := CF.out w1 (hb.mono (by simp))
  obtain ⟨W2, hW2⟩ : ∃ W2 : World, W2 = w1.alloc (.cells #[.int .i64 n, .int .i64 b, .int .i64 m, .string ⟨t.toArray⟩, .slice a L c] 86) := ⟨_, rfl⟩
  have HA := Lib.hid (show Below w1.heap.size w1 W2 by rw [hW2]; exact alloc_belowD _ _)
  have HLN := Lib.hid (show Ln W2 w1.heap.size n b m t (.slice a L c) by rw [hW2]; exact ln_new _ _ _ _ _ _)
  have HNV2 := Lib.hid (HNV.out.keep HA.out)
  have HSZ := Lib.hid hsz
  have HB2 := Lib.hid B2
  have HB := Lib.hid (hb1.trans (HA.out.mono hb1.size))
  clear hb B2 hb1 hsz k0 k1 hnv
  go_wp2_with fail
  rw [← hW2]
  refine (HMM.out W2 _ _ HLN.out HNV2.out).mono ?_
  rintro e w2 ⟨rfl, hg⟩
  have hbg := hg.below HLN.out.lt
  have c0 := hg.c0
  have c1 := hg.c1
  have HBX := Lib.hid (HB2.out.keep (HA.out.trans hbg) (by have := HSZ.out; omega))
  have HB3 := Lib.hid (HB.out.trans (hbg.mono (by have := HSZ.out; omega)))
  obtain ⟨y0, e0⟩ := HBX.out.cell 0 (by omega)
  obtain ⟨y1, e1⟩ := HBX.out.cell 1 (by omega)
  have ef := HBX.out.free
  clear hg hbg hW2
  go_wp2
  refine bodyPost_ret (ret_dk2 rfl _ _ (w.heap.size + 1) _ _ rfl HBX.out) rfl ?_
  exact ⟨rfl, set2_below HB3.out (by omega) _ _⟩
set_option maxHeartbeats 4000000 in
theorem step_m_reverse (n b m n' b' : Int) (t T s x : Tx) (o : Option Int) (hx : x = [114, 101, 118, 101, 114, 115, 101]) (w : World) (HR : ∀ W, Calls Tryz.prog 54 #[dsk n b, str s] W fun e w' => (∃ nv, e = .returned (.tuple #[str x, lnV n b m t nv, .bool true]) ∧ NvA w' nv o) ∧ Below W.heap.size W w')
    (HM : ∀ W g nv, Ln W g n b m t nv → NvA W nv o → Calls Tryz.prog 55 #[.pointer (some ⟨g, 0, none⟩), str x] W fun e w' => e = .returned (str T) ∧ Gv W w' g n' b') :
    Calls Tryz.prog 35 #[dsk n b, str s] w fun e w' => e = .returned (.tuple #[dsk n' b', str T]) ∧ Below w.heap.size w w' := by
  have q0 : (x == [116, 97, 107, 101]) = false := by rw [hx]; rfl
  have q1 : (x == [98, 97, 115, 101]) = false := by rw [hx]; rfl
  have q2 : (x == [114, 101, 118, 101, 114, 115, 101]) = true := by rw [hx]; rfl
  clear hx
  have CF := Lib.hid (cs_facts w n b)
  have H := Lib.hid HR
  have HMM := Lib.hid HM
  clear HR HM
  go_enter Tryz.func35, Tryz.ntmps35
  go_wp2_with fail
  refine (H.out _).mono ?_
  rintro e w1 ⟨⟨nv, rfl, hnv⟩, hb⟩
  have HNV := Lib.hid hnv
  obtain ⟨a, L, c, hsh⟩ := hnv.shape
  subst hsh
  obtain ⟨k0, k1, B2, hb1, hsz⟩ := CF.out w1 (hb.mono (by simp))
  obtain ⟨W2, hW2⟩ : ∃ W2 : World, W2 = w1.alloc (.cells #[.int .i64 n, .int .i64 b, .int .i64 m, .string ⟨t.toArray⟩, .slice a L c] 86) := ⟨_, rfl⟩
  have HA := Lib.hid (show Below w1.heap.size w1 W2 by rw [hW2]; exact alloc_belowD _ _)
  have HLN := Lib.hid (show Ln W2 w1.heap.size n b m t (.slice a L c) by rw [hW2]; exact ln_new _ _ _ _ _ _)
  have HNV2 := Lib.hid (HNV.out.keep HA.out)
  have HSZ := Lib.hid hsz
  have HB2 := Lib.hid B2
  have HB := Lib.hid (hb1.trans (HA.out.mono hb1.size))
  clear hb B2 hb1 hsz k0 k1 hnv
  go_wp2_with fail
  rw [← hW2]
  refine (HMM.out W2 _ _ HLN.out HNV2.out).mono ?_
  rintro e w2 ⟨rfl, hg⟩
  have hbg := hg.below HLN.out.lt
  have c0 := hg.c0
  have c1 := hg.c1
  have HBX := Lib.hid (HB2.out.keep (HA.out.trans hbg) (by have := HSZ.out; omega))
  have HB3 := Lib.hid (HB.out.trans (hbg.mono (by have := HSZ.out; omega)))
  obtain ⟨y0, e0⟩ := HBX.out.cell 0 (by omega)
  obtain ⟨y1, e1⟩ := HBX.out.cell 1 (by omega)
  have ef := HBX.out.free
  clear hg hbg hW2
  go_wp2
  refine bodyPost_ret (ret_dk2 rfl _ _ (w.heap.size + 1) _ _ rfl HBX.out) rfl ?_
  exact ⟨rfl, set2_below HB3.out (by omega) _ _⟩
set_option maxHeartbeats 4000000 in
theorem step_m_up (n b m n' b' : Int) (t T s x : Tx) (o : Option Int) (hx : x = [117, 112]) (w : World) (HR : ∀ W, Calls Tryz.prog 54 #[dsk n b, str s] W fun e w' => (∃ nv, e = .returned (.tuple #[str x, lnV n b m t nv, .bool true]) ∧ NvA w' nv o) ∧ Below W.heap.size W w')
    (HM : ∀ W g nv, Ln W g n b m t nv → NvA W nv o → Calls Tryz.prog 55 #[.pointer (some ⟨g, 0, none⟩), str x] W fun e w' => e = .returned (str T) ∧ Gv W w' g n' b') :
    Calls Tryz.prog 35 #[dsk n b, str s] w fun e w' => e = .returned (.tuple #[dsk n' b', str T]) ∧ Below w.heap.size w w' := by
  have q0 : (x == [116, 97, 107, 101]) = false := by rw [hx]; rfl
  have q1 : (x == [98, 97, 115, 101]) = false := by rw [hx]; rfl
  have q2 : (x == [114, 101, 118, 101, 114, 115, 101]) = false := by rw [hx]; rfl
  have q3 : (x == [117, 112]) = true := by rw [hx]; rfl
  clear hx
  have CF := Lib.hid (cs_facts w n b)
  have H := Lib.hid HR
  have HMM := Lib.hid HM
  clear HR HM
  go_enter Tryz.func35, Tryz.ntmps35
  go_wp2_with fail
  refine (H.out _).mono ?_
  rintro e w1 ⟨⟨nv, rfl, hnv⟩, hb⟩
  have HNV := Lib.hid hnv
  obtain ⟨a, L, c, hsh⟩ := hnv.shape
  subst hsh
  obtain ⟨k0, k1, B2, hb1, hsz⟩ := CF.out w1 (hb.mono (by simp))
  obtain ⟨W2, hW2⟩ : ∃ W2 : World, W2 = w1.alloc (.cells #[.int .i64 n, .int .i64 b, .int .i64 m, .string ⟨t.toArray⟩, .slice a L c] 86) := ⟨_, rfl⟩
  have HA := Lib.hid (show Below w1.heap.size w1 W2 by rw [hW2]; exact alloc_belowD _ _)
  have HLN := Lib.hid (show Ln W2 w1.heap.size n b m t (.slice a L c) by rw [hW2]; exact ln_new _ _ _ _ _ _)
  have HNV2 := Lib.hid (HNV.out.keep HA.out)
  have HSZ := Lib.hid hsz
  have HB2 := Lib.hid B2
  have HB := Lib.hid (hb1.trans (HA.out.mono hb1.size))
  clear hb B2 hb1 hsz k0 k1 hnv
  go_wp2_with fail
  rw [← hW2]
  refine (HMM.out W2 _ _ HLN.out HNV2.out).mono ?_
  rintro e w2 ⟨rfl, hg⟩
  have hbg := hg.below HLN.out.lt
  have c0 := hg.c0
  have c1 := hg.c1
  have HBX := Lib.hid (HB2.out.keep (HA.out.trans hbg) (by have := HSZ.out; omega))
  have HB3 := Lib.hid (HB.out.trans (hbg.mono (by have := HSZ.out; omega)))
  obtain ⟨y0, e0⟩ := HBX.out.cell 0 (by omega)
  obtain ⟨y1, e1⟩ := HBX.out.cell 1 (by omega)
  have ef := HBX.out.free
  clear hg hbg hW2
  go_wp2
  refine bodyPost_ret (ret_dk2 rfl _ _ (w.heap.size + 1) _ _ rfl HBX.out) rfl ?_
  exact ⟨rfl, set2_below HB3.out (by omega) _ _⟩
set_option maxHeartbeats 4000000 in
theorem step_m_down (n b m n' b' : Int) (t T s x : Tx) (o : Option Int) (hx : x = [100, 111, 119, 110]) (w : World) (HR : ∀ W, Calls Tryz.prog 54 #[dsk n b, str s] W fun e w' => (∃ nv, e = .returned (.tuple #[str x, lnV n b m t nv, .bool true]) ∧ NvA w' nv o) ∧ Below W.heap.size W w')
    (HM : ∀ W g nv, Ln W g n b m t nv → NvA W nv o → Calls Tryz.prog 55 #[.pointer (some ⟨g, 0, none⟩), str x] W fun e w' => e = .returned (str T) ∧ Gv W w' g n' b') :
    Calls Tryz.prog 35 #[dsk n b, str s] w fun e w' => e = .returned (.tuple #[dsk n' b', str T]) ∧ Below w.heap.size w w' := by
  have q0 : (x == [116, 97, 107, 101]) = false := by rw [hx]; rfl
  have q1 : (x == [98, 97, 115, 101]) = false := by rw [hx]; rfl
  have q2 : (x == [114, 101, 118, 101, 114, 115, 101]) = false := by rw [hx]; rfl
  have q3 : (x == [117, 112]) = false := by rw [hx]; rfl
  have q4 : (x == [100, 111, 119, 110]) = true := by rw [hx]; rfl
  clear hx
  have CF := Lib.hid (cs_facts w n b)
  have H := Lib.hid HR
  have HMM := Lib.hid HM
  clear HR HM
  go_enter Tryz.func35, Tryz.ntmps35
  go_wp2_with fail
  refine (H.out _).mono ?_
  rintro e w1 ⟨⟨nv, rfl, hnv⟩, hb⟩
  have HNV := Lib.hid hnv
  obtain ⟨a, L, c, hsh⟩ := hnv.shape
  subst hsh
  obtain ⟨k0, k1, B2, hb1, hsz⟩ := CF.out w1 (hb.mono (by simp))
  obtain ⟨W2, hW2⟩ : ∃ W2 : World, W2 = w1.alloc (.cells #[.int .i64 n, .int .i64 b, .int .i64 m, .string ⟨t.toArray⟩, .slice a L c] 86) := ⟨_, rfl⟩
  have HA := Lib.hid (show Below w1.heap.size w1 W2 by rw [hW2]; exact alloc_belowD _ _)
  have HLN := Lib.hid (show Ln W2 w1.heap.size n b m t (.slice a L c) by rw [hW2]; exact ln_new _ _ _ _ _ _)
  have HNV2 := Lib.hid (HNV.out.keep HA.out)
  have HSZ := Lib.hid hsz
  have HB2 := Lib.hid B2
  have HB := Lib.hid (hb1.trans (HA.out.mono hb1.size))
  clear hb B2 hb1 hsz k0 k1 hnv
  go_wp2_with fail
  rw [← hW2]
  refine (HMM.out W2 _ _ HLN.out HNV2.out).mono ?_
  rintro e w2 ⟨rfl, hg⟩
  have hbg := hg.below HLN.out.lt
  have c0 := hg.c0
  have c1 := hg.c1
  have HBX := Lib.hid (HB2.out.keep (HA.out.trans hbg) (by have := HSZ.out; omega))
  have HB3 := Lib.hid (HB.out.trans (hbg.mono (by have := HSZ.out; omega)))
  obtain ⟨y0, e0⟩ := HBX.out.cell 0 (by omega)
  obtain ⟨y1, e1⟩ := HBX.out.cell 1 (by omega)
  have ef := HBX.out.free
  clear hg hbg hW2
  go_wp2
  refine bodyPost_ret (ret_dk2 rfl _ _ (w.heap.size + 1) _ _ rfl HBX.out) rfl ?_
  exact ⟨rfl, set2_below HB3.out (by omega) _ _⟩
set_option maxHeartbeats 4000000 in
theorem step_m_power (n b m n' b' : Int) (t T s x : Tx) (o : Option Int) (hx : x = [112, 111, 119, 101, 114]) (w : World) (HR : ∀ W, Calls Tryz.prog 54 #[dsk n b, str s] W fun e w' => (∃ nv, e = .returned (.tuple #[str x, lnV n b m t nv, .bool true]) ∧ NvA w' nv o) ∧ Below W.heap.size W w')
    (HM : ∀ W g nv, Ln W g n b m t nv → NvA W nv o → Calls Tryz.prog 55 #[.pointer (some ⟨g, 0, none⟩), str x] W fun e w' => e = .returned (str T) ∧ Gv W w' g n' b') :
    Calls Tryz.prog 35 #[dsk n b, str s] w fun e w' => e = .returned (.tuple #[dsk n' b', str T]) ∧ Below w.heap.size w w' := by
  have q0 : (x == [116, 97, 107, 101]) = false := by rw [hx]; rfl
  have q1 : (x == [98, 97, 115, 101]) = false := by rw [hx]; rfl
  have q2 : (x == [114, 101, 118, 101, 114, 115, 101]) = false := by rw [hx]; rfl
  have q3 : (x == [117, 112]) = false := by rw [hx]; rfl
  have q4 : (x == [100, 111, 119, 110]) = false := by rw [hx]; rfl
  have q5 : (x == [112, 111, 119, 101, 114]) = true := by rw [hx]; rfl
  clear hx
  have CF := Lib.hid (cs_facts w n b)
  have H := Lib.hid HR
  have HMM := Lib.hid HM
  clear HR HM
  go_enter Tryz.func35, Tryz.ntmps35
  go_wp2_with fail
  refine (H.out _).mono ?_
  rintro e w1 ⟨⟨nv, rfl, hnv⟩, hb⟩
  have HNV := Lib.hid hnv
  obtain ⟨a, L, c, hsh⟩ := hnv.shape
  subst hsh
  obtain ⟨k0, k1, B2, hb1, hsz⟩ := CF.out w1 (hb.mono (by simp))
  obtain ⟨W2, hW2⟩ : ∃ W2 : World, W2 = w1.alloc (.cells #[.int .i64 n, .int .i64 b, .int .i64 m, .string ⟨t.toArray⟩, .slice a L c] 86) := ⟨_, rfl⟩
  have HA := Lib.hid (show Below w1.heap.size w1 W2 by rw [hW2]; exact alloc_belowD _ _)
  have HLN := Lib.hid (show Ln W2 w1.heap.size n b m t (.slice a L c) by rw [hW2]; exact ln_new _ _ _ _ _ _)
  have HNV2 := Lib.hid (HNV.out.keep HA.out)
  have HSZ := Lib.hid hsz
  have HB2 := Lib.hid B2
  have HB := Lib.hid (hb1.trans (HA.out.mono hb1.size))
  clear hb B2 hb1 hsz k0 k1 hnv
  go_wp2_with fail
  rw [← hW2]
  refine (HMM.out W2 _ _ HLN.out HNV2.out).mono ?_
  rintro e w2 ⟨rfl, hg⟩
  have hbg := hg.below HLN.out.lt
  have c0 := hg.c0
  have c1 := hg.c1
  have HBX := Lib.hid (HB2.out.keep (HA.out.trans hbg) (by have := HSZ.out; omega))
  have HB3 := Lib.hid (HB.out.trans (hbg.mono (by have := HSZ.out; omega)))
  obtain ⟨y0, e0⟩ := HBX.out.cell 0 (by omega)
  obtain ⟨y1, e1⟩ := HBX.out.cell 1 (by omega)
  have ef := HBX.out.free
  clear hg hbg hW2
  go_wp2
  refine bodyPost_ret (ret_dk2 rfl _ _ (w.heap.size + 1) _ _ rfl HBX.out) rfl ?_
  exact ⟨rfl, set2_below HB3.out (by omega) _ _⟩
set_option maxHeartbeats 4000000 in
theorem step_m_step (n b m n' b' : Int) (t T s x : Tx) (o : Option Int) (hx : x = [115, 116, 101, 112]) (w : World) (HR : ∀ W, Calls Tryz.prog 54 #[dsk n b, str s] W fun e w' => (∃ nv, e = .returned (.tuple #[str x, lnV n b m t nv, .bool true]) ∧ NvA w' nv o) ∧ Below W.heap.size W w')
    (HM : ∀ W g nv, Ln W g n b m t nv → NvA W nv o → Calls Tryz.prog 55 #[.pointer (some ⟨g, 0, none⟩), str x] W fun e w' => e = .returned (str T) ∧ Gv W w' g n' b') :
    Calls Tryz.prog 35 #[dsk n b, str s] w fun e w' => e = .returned (.tuple #[dsk n' b', str T]) ∧ Below w.heap.size w w' := by
  have q0 : (x == [116, 97, 107, 101]) = false := by rw [hx]; rfl
  have q1 : (x == [98, 97, 115, 101]) = false := by rw [hx]; rfl
  have q2 : (x == [114, 101, 118, 101, 114, 115, 101]) = false := by rw [hx]; rfl
  have q3 : (x == [117, 112]) = false := by rw [hx]; rfl
  have q4 : (x == [100, 111, 119, 110]) = false := by rw [hx]; rfl
  have q5 : (x == [112, 111, 119, 101, 114]) = false := by rw [hx]; rfl
  have q6 : (x == [115, 116, 101, 112]) = true := by rw [hx]; rfl
  clear hx
  have CF := Lib.hid (cs_facts w n b)
  have H := Lib.hid HR
  have HMM := Lib.hid HM
  clear HR HM
  go_enter Tryz.func35, Tryz.ntmps35
  go_wp2_with fail
  refine (H.out _).mono ?_
  rintro e w1 ⟨⟨nv, rfl, hnv⟩, hb⟩
  have HNV := Lib.hid hnv
  obtain ⟨a, L, c, hsh⟩ := hnv.shape
  subst hsh
  obtain ⟨k0, k1, B2, hb1, hsz⟩ := CF.out w1 (hb.mono (by simp))
  obtain ⟨W2, hW2⟩ : ∃ W2 : World, W2 = w1.alloc (.cells #[.int .i64 n, .int .i64 b, .int .i64 m, .string ⟨t.toArray⟩, .slice a L c] 86) := ⟨_, rfl⟩
  have HA := Lib.hid (show Below w1.heap.size w1 W2 by rw [hW2]; exact alloc_belowD _ _)
  have HLN := Lib.hid (show Ln W2 w1.heap.size n b m t (.slice a L c) by rw [hW2]; exact ln_new _ _ _ _ _ _)
  have HNV2 := Lib.hid (HNV.out.keep HA.out)
  have HSZ := Lib.hid hsz
  have HB2 := Lib.hid B2
  have HB := Lib.hid (hb1.trans (HA.out.mono hb1.size))
  clear hb B2 hb1 hsz k0 k1 hnv
  go_wp2_with fail
  rw [← hW2]
  refine (HMM.out W2 _ _ HLN.out HNV2.out).mono ?_
  rintro e w2 ⟨rfl, hg⟩
  have hbg := hg.below HLN.out.lt
  have c0 := hg.c0
  have c1 := hg.c1
  have HBX := Lib.hid (HB2.out.keep (HA.out.trans hbg) (by have := HSZ.out; omega))
  have HB3 := Lib.hid (HB.out.trans (hbg.mono (by have := HSZ.out; omega)))
  obtain ⟨y0, e0⟩ := HBX.out.cell 0 (by omega)
  obtain ⟨y1, e1⟩ := HBX.out.cell 1 (by omega)
  have ef := HBX.out.free
  clear hg hbg hW2
  go_wp2
  refine bodyPost_ret (ret_dk2 rfl _ _ (w.heap.size + 1) _ _ rfl HBX.out) rfl ?_
  exact ⟨rfl, set2_below HB3.out (by omega) _ _⟩
set_option maxHeartbeats 4000000 in
theorem step_m_short (n b m n' b' : Int) (t T s x : Tx) (o : Option Int) (hx : x = [115, 104, 111, 114, 116]) (w : World) (HR : ∀ W, Calls Tryz.prog 54 #[dsk n b, str s] W fun e w' => (∃ nv, e = .returned (.tuple #[str x, lnV n b m t nv, .bool true]) ∧ NvA w' nv o) ∧ Below W.heap.size W w')
    (HM : ∀ W g nv, Ln W g n b m t nv → NvA W nv o → Calls Tryz.prog 55 #[.pointer (some ⟨g, 0, none⟩), str x] W fun e w' => e = .returned (str T) ∧ Gv W w' g n' b') :
    Calls Tryz.prog 35 #[dsk n b, str s] w fun e w' => e = .returned (.tuple #[dsk n' b', str T]) ∧ Below w.heap.size w w' := by
  have q0 : (x == [116, 97, 107, 101]) = false := by rw [hx]; rfl
  have q1 : (x == [98, 97, 115, 101]) = false := by rw [hx]; rfl
  have q2 : (x == [114, 101, 118, 101, 114, 115, 101]) = false := by rw [hx]; rfl
  have q3 : (x == [117, 112]) = false := by rw [hx]; rfl
  have q4 : (x == [100, 111, 119, 110]) = false := by rw [hx]; rfl
  have q5 : (x == [112, 111, 119, 101, 114]) = false := by rw [hx]; rfl
  have q6 : (x == [115, 116, 101, 112]) = false := by rw [hx]; rfl
  have q7 : (x == [115, 104, 111, 114, 116]) = true := by rw [hx]; rfl
  clear hx
  have CF := Lib.hid (cs_facts w n b)
  have H := Lib.hid HR
  have HMM := Lib.hid HM
  clear HR HM
  go_enter Tryz.func35, Tryz.ntmps35
  go_wp2_with fail
  refine (H.out _).mono ?_
  rintro e w1 ⟨⟨nv, rfl, hnv⟩, hb⟩
  have HNV := Lib.hid hnv
  obtain ⟨a, L, c, hsh⟩ := hnv.shape
  subst hsh
  obtain ⟨k0, k1, B2, hb1, hsz⟩ := CF.out w1 (hb.mono (by simp))
  obtain ⟨W2, hW2⟩ : ∃ W2 : World, W2 = w1.alloc (.cells #[.int .i64 n, .int .i64 b, .int .i64 m, .string ⟨t.toArray⟩, .slice a L c] 86) := ⟨_, rfl⟩
  have HA := Lib.hid (show Below w1.heap.size w1 W2 by rw [hW2]; exact alloc_belowD _ _)
  have HLN := Lib.hid (show Ln W2 w1.heap.size n b m t (.slice a L c) by rw [hW2]; exact ln_new _ _ _ _ _ _)
  have HNV2 := Lib.hid (HNV.out.keep HA.out)
  have HSZ := Lib.hid hsz
  have HB2 := Lib.hid B2
  have HB := Lib.hid (hb1.trans (HA.out.mono hb1.size))
  clear hb B2 hb1 hsz k0 k1 hnv
  go_wp2_with fail
  rw [← hW2]
  refine (HMM.out W2 _ _ HLN.out HNV2.out).mono ?_
  rintro e w2 ⟨rfl, hg⟩
  have hbg := hg.below HLN.out.lt
  have c0 := hg.c0
  have c1 := hg.c1
  have HBX := Lib.hid (HB2.out.keep (HA.out.trans hbg) (by have := HSZ.out; omega))
  have HB3 := Lib.hid (HB.out.trans (hbg.mono (by have := HSZ.out; omega)))
  obtain ⟨y0, e0⟩ := HBX.out.cell 0 (by omega)
  obtain ⟨y1, e1⟩ := HBX.out.cell 1 (by omega)
  have ef := HBX.out.free
  clear hg hbg hW2
  go_wp2
  refine bodyPost_ret (ret_dk2 rfl _ _ (w.heap.size + 1) _ _ rfl HBX.out) rfl ?_
  exact ⟨rfl, set2_below HB3.out (by omega) _ _⟩
set_option maxHeartbeats 4000000 in
theorem step_m_next (n b m n' b' : Int) (t T s x : Tx) (o : Option Int) (hx : x = [110, 101, 120, 116]) (w : World) (HR : ∀ W, Calls Tryz.prog 54 #[dsk n b, str s] W fun e w' => (∃ nv, e = .returned (.tuple #[str x, lnV n b m t nv, .bool true]) ∧ NvA w' nv o) ∧ Below W.heap.size W w')
    (HM : ∀ W g nv, Ln W g n b m t nv → NvA W nv o → Calls Tryz.prog 55 #[.pointer (some ⟨g, 0, none⟩), str x] W fun e w' => e = .returned (str T) ∧ Gv W w' g n' b') :
    Calls Tryz.prog 35 #[dsk n b, str s] w fun e w' => e = .returned (.tuple #[dsk n' b', str T]) ∧ Below w.heap.size w w' := by
  have q0 : (x == [116, 97, 107, 101]) = false := by rw [hx]; rfl
  have q1 : (x == [98, 97, 115, 101]) = false := by rw [hx]; rfl
  have q2 : (x == [114, 101, 118, 101, 114, 115, 101]) = false := by rw [hx]; rfl
  have q3 : (x == [117, 112]) = false := by rw [hx]; rfl
  have q4 : (x == [100, 111, 119, 110]) = false := by rw [hx]; rfl
  have q5 : (x == [112, 111, 119, 101, 114]) = false := by rw [hx]; rfl
  have q6 : (x == [115, 116, 101, 112]) = false := by rw [hx]; rfl
  have q7 : (x == [115, 104, 111, 114, 116]) = false := by rw [hx]; rfl
  have q8 : (x == [110, 101, 120, 116]) = true := by rw [hx]; rfl
  clear hx
  have CF := Lib.hid (cs_facts w n b)
  have H := Lib.hid HR
  have HMM := Lib.hid HM
  clear HR HM
  go_enter Tryz.func35, Tryz.ntmps35
  go_wp2_with fail
  refine (H.out _).mono ?_
  rintro e w1 ⟨⟨nv, rfl, hnv⟩, hb⟩
  have HNV := Lib.hid hnv
  obtain ⟨a, L, c, hsh⟩ := hnv.shape
  subst hsh
  obtain ⟨k0, k1, B2, hb1, hsz⟩ := CF.out w1 (hb.mono (by simp))
  obtain ⟨W2, hW2⟩ : ∃ W2 : World, W2 = w1.alloc (.cells #[.int .i64 n, .int .i64 b, .int .i64 m, .string ⟨t.toArray⟩, .slice a L c] 86) := ⟨_, rfl⟩
  have HA := Lib.hid (show Below w1.heap.size w1 W2 by rw [hW2]; exact alloc_belowD _ _)
  have HLN := Lib.hid (show Ln W2 w1.heap.size n b m t (.slice a L c) by rw [hW2]; exact ln_new _ _ _ _ _ _)
  have HNV2 := Lib.hid (HNV.out.keep HA.out)
  have HSZ := Lib.hid hsz
  have HB2 := Lib.hid B2
  have HB := Lib.hid (hb1.trans (HA.out.mono hb1.size))
  clear hb B2 hb1 hsz k0 k1 hnv
  go_wp2_with fail
  rw [← hW2]
  refine (HMM.out W2 _ _ HLN.out HNV2.out).mono ?_
  rintro e w2 ⟨rfl, hg⟩
  have hbg := hg.below HLN.out.lt
  have c0 := hg.c0
  have c1 := hg.c1
  have HBX := Lib.hid (HB2.out.keep (HA.out.trans hbg) (by have := HSZ.out; omega))
  have HB3 := Lib.hid (HB.out.trans (hbg.mono (by have := HSZ.out; omega)))
  obtain ⟨y0, e0⟩ := HBX.out.cell 0 (by omega)
  obtain ⟨y1, e1⟩ := HBX.out.cell 1 (by omega)
  have ef := HBX.out.free
  clear hg hbg hW2
  go_wp2
  refine bodyPost_ret (ret_dk2 rfl _ _ (w.heap.size + 1) _ _ rfl HBX.out) rfl ?_
  exact ⟨rfl, set2_below HB3.out (by omega) _ _⟩
set_option maxHeartbeats 4000000 in
theorem step_a (n b m : Int) (t T s x : Tx) (o : Option Int) (hx : x ∉ [[116, 97, 107, 101], [98, 97, 115, 101], [114, 101, 118, 101, 114, 115, 101], [117, 112], [100, 111, 119, 110], [112, 111, 119, 101, 114], [115, 116, 101, 112], [115, 104, 111, 114, 116], [110, 101, 120, 116]]) (w : World) (HR : ∀ W, Calls Tryz.prog 54 #[dsk n b, str s] W fun e w' => (∃ nv, e = .returned (.tuple #[str x, lnV n b m t nv, .bool true]) ∧ NvA w' nv o) ∧ Below W.heap.size W w')
    (HM : ∀ W g nv, Ln W g n b m t nv → NvA W nv o → Calls Tryz.prog 56 #[.pointer (some ⟨g, 0, none⟩), str x] W fun e w' => e = .returned (str T) ∧ Below W.heap.size W w') :
    Calls Tryz.prog 35 #[dsk n b, str s] w fun e w' => e = .returned (.tuple #[dsk n b, str T]) ∧ Below w.heap.size w w' := by
  simp only [List.mem_cons, List.mem_nil_iff, or_false, not_or] at hx
  obtain ⟨h0, h1, h2, h3, h4, h5, h6, h7, h8⟩ := hx
  have q0 : (x == [116, 97, 107, 101]) = false := beq_false_of_ne h0
  have q1 : (x == [98, 97, 115, 101]) = false := beq_false_of_ne h1
  have q2 : (x == [114, 101, 118, 101, 114, 115, 101]) = false := beq_false_of_ne h2
  have q3 : (x == [117, 112]) = false := beq_false_of_ne h3
  have q4 : (x == [100, 111, 119, 110]) = false := beq_false_of_ne h4
  have q5 : (x == [112, 111, 119, 101, 114]) = false := beq_false_of_ne h5
  have q6 : (x == [115, 116, 101, 112]) = false := beq_false_of_ne h6
  have q7 : (x == [115, 104, 111, 114, 116]) = false := beq_false_of_ne h7
  have q8 : (x == [110, 101, 120, 116]) = false := beq_false_of_ne h8
  clear h0 h1 h2 h3 h4 h5 h6 h7 h8
  have CF := Lib.hid (cs_facts w n b)
  have H := Lib.hid HR
  have HMM := Lib.hid HM
  clear HR HM
  go_enter Tryz.func35, Tryz.ntmps35
  go_wp2_with fail
  refine (H.out _).mono ?_
  rintro e w1 ⟨⟨nv, rfl, hnv⟩, hb⟩
  have HNV := Lib.hid hnv
  obtain ⟨a, L, c, hsh⟩ := hnv.shape
  subst hsh
  obtain ⟨k0, k1, B2, hb1, hsz⟩ := CF.out w1 (hb.mono (by simp))
  obtain ⟨W2, hW2⟩ : ∃ W2 : World, W2 = w1.alloc (.cells #[.int .i64 n, .int .i64 b, .int .i64 m, .string ⟨t.toArray⟩, .slice a L c] 86) := ⟨_, rfl⟩
  have HA := Lib.hid (show Below w1.heap.size w1 W2 by rw [hW2]; exact alloc_belowD _ _)
  have HLN := Lib.hid (show Ln W2 w1.heap.size n b m t (.slice a L c) by rw [hW2]; exact ln_new _ _ _ _ _ _)
  have HNV2 := Lib.hid (HNV.out.keep HA.out)
  have HSZ := Lib.hid hsz
  have HB2 := Lib.hid B2
  have HB := Lib.hid (hb1.trans (HA.out.mono hb1.size))
  have K0 := (HA.out.cell (p := ⟨w.heap.size, 0, none⟩) (by show w.heap.size < w1.heap.size; omega)).trans k0
  have K1 := (HA.out.cell (p := ⟨w.heap.size, 1, none⟩) (by show w.heap.size < w1.heap.size; omega)).trans k1
  have HL2 := Lib.hid (show w1.heap.size < W2.heap.size by rw [hW2]; simp)
  clear hb B2 hb1 hsz k0 k1 hnv
  go_wp2
  rw [← hW2]
  have HBX0 := Lib.hid (HB2.out.keep HA.out (by have := HSZ.out; omega))
  have HKK := Lib.hid (show ∀ w', Below W2.heap.size W2 w' → w'.cell? ⟨w.heap.size, 0, none⟩ = some (.int .i64 n) ∧ w'.cell? ⟨w.heap.size, 1, none⟩ = some (.int .i64 b) ∧ Box2 w' (w.heap.size + 1) from fun w' hb => ⟨(hb.cell (p := ⟨w.heap.size, 0, none⟩) (by show w.heap.size < W2.heap.size; have := HSZ.out; have := HL2.out; omega)).trans K0, (hb.cell (p := ⟨w.heap.size, 1, none⟩) (by show w.heap.size < W2.heap.size; have := HSZ.out; have := HL2.out; omega)).trans K1, HBX0.out.keep hb (by have := HSZ.out; have := HL2.out; omega)⟩)
  clear hW2
  go_region_with (go_at_call 56; refine (HMM.out _ _ _ (HLN.out.keep (Below.refl _ _).drew) (HNV2.out.keep (Below.refl _ _).drew)).mono ?_; rintro e w2 ⟨rfl, hb⟩; obtain ⟨j0, j1, hbx⟩ := HKK.out w2 ((Below.refl _ _).drew.trans hb); have HBX := Lib.hid hbx; have HB3 := Lib.hid (HB.out.trans (((Below.refl W2.heap.size W2).drew.trans hb).mono HB.out.size)); obtain ⟨y0, e0⟩ := hbx.cell 0 (by omega); obtain ⟨y1, e1⟩ := hbx.cell 1 (by omega); have ef := hbx.free; clear hb hbx)
  all_goals
    go_wp2
    refine bodyPost_ret (ret_dk2 rfl _ _ (w.heap.size + 1) _ _ rfl HBX.out) rfl ?_
    exact ⟨rfl, set2_below HB3.out (by omega) _ _⟩

end Go.Proofs.YtlbjeiaihenjkaaGreatDoor
