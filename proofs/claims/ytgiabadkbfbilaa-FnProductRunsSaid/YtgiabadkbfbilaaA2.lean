/-
  Joint text of WU WV WX WY (written by wip/tools/merge.py).
-/
import Derived.Test.YtgiabadkbfbilaaWT
import Derived.Test.YtgiabadkbfbilaaTE
import Derived.Laws.AppendOwn
import Derived.Deep.AppendLies
import Derived.BigRegion
import Derived.Deep.RegionHeld3
/- from XWU -/
namespace Go.Proofs.Ytgiabadkbfbilaa
open Go.RowKit
set_option linter.unusedVariables false
set_option linter.unusedSimpArgs false
set_option maxRecDepth 100000

theorem loadVar_three {T : TypeId} {d : TypeDesc} (hu : Try.prog.underlying T = some d) (hd : (match d with | .struct _ | .array _ _ => true | _ => false) = true) (hi : (Try.prog.info? T).map (·.size) = some 3)
    (w : World) (s : Nat) (x0 x1 x2 : Value) (h0 : w.cell? ⟨s, 0, none⟩ = some x0) (h1 : w.cell? ⟨s, 1, none⟩ = some x1) (h2 : w.cell? ⟨s, 2, none⟩ = some x2) : (loadVar T ⟨s, 0, none⟩).run Try.prog w = .ok (.agg #[x0, x1, x2]) w := by
  have hl : (loadCells ⟨s, 0, none⟩ ([x0, x1, x2] : List Value).length).run Try.prog w = .ok ([x0, x1, x2] : List Value).toArray w :=
    run_loadCells_list (P := Try.prog) w ⟨s, 0, none⟩ [x0, x1, x2] (fun j v hv => by
      have hadd : (⟨s, 0, none⟩ : Addr).add j = ⟨s, j, none⟩ := by unfold Addr.add; split <;> simp_all
      rw [hadd]
      match j, hv with
      | 0, hv => simp at hv; subst hv; exact h0
      | 1, hv => simp at hv; subst hv; exact h1
      | 2, hv => simp at hv; subst hv; exact h2
      | j + 3, hv => simp at hv)
  cases hq : Try.prog.info? T with
  | none => simp [hq] at hi
  | some i =>
    have hs : i.size = 3 := by simpa [hq] using hi
    have hagg : (isAgg T).run Try.prog w = .ok true w := by
      unfold isAgg
      rw [Sem.run_bind, run_underlying hu w]
      cases d <;> simp_all
    simp only [List.length_cons, List.length_nil, Nat.zero_add, Nat.reduceAdd] at hl
    simp [loadVar, Sem.run_bind, hagg, sizeOf, typeInfo, hq, hs, hl]

theorem results_cell_one6 {P : Program} {fn : Func} {p : Tmp} {ty : TypeId} (h : fn.results = #[.cell p ty]) (tmps : Array Value) (w : World) (s : Nat) (v : Value) (hp : tmps.getD p undef = .pointer (some ⟨s, 0, none⟩)) (hl : (loadVar ty ⟨s, 0, none⟩).run P w = .ok v w) :
    (results fn tmps).run P w = .ok v w := by
  have hp' : tmps[p]?.getD undef = .pointer (some ⟨s, 0, none⟩) := by simpa using hp
  simp [results, h, hp', asAddr, hl]

theorem infoSp : (Try.prog.info? 122).map (·.size) = some 3 := by kernel_rfl
theorem infoSr6 : (Try.prog.info? 119).map (·.size) = some 2 := by kernel_rfl
theorem ret_split {fn : Func} {p : Tmp} (h : fn.results = #[.cell p 122]) (tmps : Array Value) (w : World) (s : Nat) (x0 x1 x2 : Value)
    (hp : tmps.getD p undef = .pointer (some ⟨s, 0, none⟩)) (h0 : w.cell? ⟨s, 0, none⟩ = some x0) (h1 : w.cell? ⟨s, 1, none⟩ = some x1) (h2 : w.cell? ⟨s, 2, none⟩ = some x2) :
    (results fn tmps).run Try.prog w = .ok (.agg #[x0, x1, x2]) w := results_cell_one6 h tmps w s _ hp (loadVar_three Try.underlying122 rfl infoSp w s x0 x1 x2 h0 h1 h2)
theorem ret_splitter {fn : Func} {p : Tmp} (h : fn.results = #[.cell p 119]) (tmps : Array Value) (w : World) (s : Nat) (x0 x1 : Value)
    (hp : tmps.getD p undef = .pointer (some ⟨s, 0, none⟩)) (h0 : w.cell? ⟨s, 0, none⟩ = some x0) (h1 : w.cell? ⟨s, 1, none⟩ = some x1) :
    (results fn tmps).run Try.prog w = .ok (.agg #[x0, x1]) w := results_cell_one6 h tmps w s _ hp (loadVar_pair Try.underlying119 rfl infoSr6 w s 0 x0 x1 h0 h1)

theorem spV_one (b : Nat) : spV b 1 = .agg #[.int .i64 1, .int .i64 0, .int .i64 0] := by
  unfold spV; rw [ct_one b 1 (Nat.le_refl _), mf_one b 1 (Nat.le_refl _)]; rfl

theorem splitter_any (b : Nat) (w : World) :
    Calls Try.prog 149 #[.int .i64 (b : Int)] w fun e w' => ∃ m s, e = .returned (.agg #[.int .i64 (b : Int), .map (some m)]) ∧ Sm w' b m s ∧ s 1 = true ∧ w.heap.size ≤ m ∧ Below w.heap.size w w' := by
  have hmm := @run_makeMap Try.prog
  have HV := Lib.hid (spV_one b)
  have HC0 := Lib.hid (show ((w.alloc (.cells #[.int .i64 0, .map none] 119)).alloc (.map #[] 0)).cell? ⟨w.heap.size, 0, none⟩ = some (.int .i64 0) by simp [go_sem])
  have HC1 := Lib.hid (show ((w.alloc (.cells #[.int .i64 0, .map none] 119)).alloc (.map #[] 0)).cell? ⟨w.heap.size, 1, none⟩ = some (.map none) by simp [go_sem])
  have HFR := Lib.hid (show ∀ j, ((w.alloc (.cells #[.int .i64 0, .map none] 119)).alloc (.map #[] 0)).frozen? ⟨w.heap.size, j, none⟩ = false from fun j => by simp [go_sem])
  have HB0 := Lib.hid (show Below w.heap.size w ((w.alloc (.cells #[.int .i64 0, .map none] 119)).alloc (.map #[] 0)) from (alloc_below w _).alloc (by rw [World.size_alloc]; omega) _)
  obtain ⟨m, hm⟩ : ∃ m, m = w.heap.size + 1 := ⟨_, rfl⟩
  go_enter Try.func149, Try.ntmps149
  go_wp2_with (go_loud (refine wpList_putM rfl _ _ _ (.inr rfl) b (w.heap.size + 1) (fun _ => false) 1 (by first | rfl | simp) rfl (by rw [HV.out]; rfl) (by have := Sm.made (w.alloc (.cells #[.int .i64 0, .map none] 119)) b; rw [World.size_alloc] at this; exact this) (by omega) ?_; intro w2 hs2 hg2; have HS2 := Lib.hid hs2; have HG2 := Lib.hid hg2; have c0 := hg2.cell HC0.out (by first | (simp; done) | (simp; omega)); have c1 := hg2.cell HC1.out (by first | (simp; done) | (simp; omega)); have f0 := (hg2.frozen_far ⟨w.heap.size, 0, none⟩ (by rw [World.size_alloc, World.size_alloc]; show w.heap.size < _; omega) (by simp)).trans (HFR.out 0); have f1 := (hg2.frozen_far ⟨w.heap.size, 1, none⟩ (by rw [World.size_alloc, World.size_alloc]; show w.heap.size < _; omega) (by simp)).trans (HFR.out 1); have HB2 := Lib.hid (HB0.out.grown hg2 HB0.out.size (fun k hk => by cases hk; omega)); clear hs2 hg2))
  obtain ⟨e0, e1⟩ := set_pair (x0 := .int .i64 (b : Int)) (x1 := .map (some (w.heap.size + 1))) c0 c1
  refine bodyPost_ret (ret_splitter rfl _ _ w.heap.size _ _ rfl e0 e1) rfl ?_
  exact ⟨_, _, rfl, (HS2.out.setCell _ _ (by simp)).setCell _ _ (by simp), by simp [adj], by omega, (HB2.out.setCell (Nat.le_refl _) _).setCell (Nat.le_refl _) _⟩

end Go.Proofs.Ytgiabadkbfbilaa

/- from XWV -/
namespace Go.Proofs.Ytgiabadkbfbilaa
open Go.RowKit
set_option linter.unusedVariables false
set_option linter.unusedSimpArgs false
set_option maxRecDepth 100000

theorem set_three {w : World} {s : Nat} {y0 y1 y2 x0 x1 x2 : Value} (h0 : w.cell? ⟨s, 0, none⟩ = some y0) (h1 : w.cell? ⟨s, 1, none⟩ = some y1) (h2 : w.cell? ⟨s, 2, none⟩ = some y2) :
    (((w.setCell ⟨s, 0, none⟩ x0).setCell ⟨s, 1, none⟩ x1).setCell ⟨s, 2, none⟩ x2).cell? ⟨s, 0, none⟩ = some x0 ∧ (((w.setCell ⟨s, 0, none⟩ x0).setCell ⟨s, 1, none⟩ x1).setCell ⟨s, 2, none⟩ x2).cell? ⟨s, 1, none⟩ = some x1 ∧
      (((w.setCell ⟨s, 0, none⟩ x0).setCell ⟨s, 1, none⟩ x1).setCell ⟨s, 2, none⟩ x2).cell? ⟨s, 2, none⟩ = some x2 := by
  have hp := set_pair (x0 := x0) (x1 := x1) h0 h1
  have n0 : (⟨s, 2, none⟩ : Addr) ≠ ⟨s, 0, none⟩ := fun e => by simp at e
  have n1 : (⟨s, 2, none⟩ : Addr) ≠ ⟨s, 1, none⟩ := fun e => by simp at e
  refine ⟨?_, ?_, ?_⟩
  · rw [World.cell?_setCell_other _ _ _ _ n0]; exact hp.1
  · rw [World.cell?_setCell_other _ _ _ _ n1]; exact hp.2
  · refine World.cell?_setCell_same _ _ _ (u := y2) ?_
    rw [World.cell?_setCell_other _ _ _ _ n1.symm, World.cell?_setCell_other _ _ _ _ n0.symm]
    exact h2
/-- Cells of a block that the call made: no row that the caller has. -/
theorem grown_own {w w' : World} {row : Option Nat} (h : w.grownBy w' row) (s : Nat) (hs : w.heap.size ≤ s) (x : Value) (j : Nat) : w.grownBy (w'.setCell ⟨s, j, none⟩ x) row :=
  ⟨h.os, h.tape, h.output, by simpa using h.size, fun k hk hne => by
    have := (grown_setCell w' s j x).block k (Nat.lt_of_lt_of_le hk h.size) (fun e => by cases e; omega)
    exact this.trans (h.block k hk hne)⟩
theorem grown_alloc6 {w w' : World} {row : Option Nat} (h : w.grownBy w' row) (o : Obj) : w.grownBy (w'.alloc o) row :=
  ⟨h.os, h.tape, h.output, by rw [World.size_alloc]; exact Nat.le_succ_of_le h.size, fun k hk hne => by
    have := (World.grownBy_alloc w' o none).block k (Nat.lt_of_lt_of_le hk h.size) (by simp)
    exact this.trans (h.block k hk hne)⟩

set_option maxHeartbeats 1000000 in
theorem of_hit (b p m : Nat) (s : Nat → Bool) (w : World) (hb : 2 ≤ b) (hb' : b ≤ 16) (hp : 1 ≤ p) (hp' : p ≤ 1000000000000) (hs : Sm w b m s) (h1 : s 1 = true) (hit : s p = true) :
    Calls Try.prog 150 #[.agg #[.int .i64 (b : Int), .map (some m)], .int .i64 (p : Int)] w fun e w' => ∃ s', e = .returned (spV b p) ∧ Sm w' b m s' ∧ s' 1 = true ∧ w.grownBy w' (some m) := by
  have hml := hs.lt
  have HIT := Lib.hid hit
  obtain ⟨w1, hw1⟩ : ∃ w1, w1 = (w.alloc (.cells #[.int .i64 (b : Int), .map (some m)] 119)).alloc (.cells #[.int .i64 0, .int .i64 0, .int .i64 0] 122) := ⟨_, rfl⟩
  have HW1 := Lib.hid hw1
  have hsz1 : w1.heap.size = w.heap.size + 2 := by rw [hw1, World.size_alloc, World.size_alloc]
  have HS1 := Lib.hid (show Sm w1 b m s by rw [hw1]; exact (hs.alloc _).alloc _)
  have HG1 := Lib.hid (show w.grownBy w1 (some m) by rw [hw1]; exact grown_alloc6 (grown_alloc6 (World.grownBy.refl _ _) _) _)
  have cm : w1.cell? ⟨w.heap.size, 1, none⟩ = some (.map (some m)) := by rw [hw1]; simp [go_sem]
  have r0 : w1.cell? ⟨w.heap.size + 1, 0, none⟩ = some (.int .i64 0) := by rw [hw1]; simp [go_sem]
  have r1 : w1.cell? ⟨w.heap.size + 1, 1, none⟩ = some (.int .i64 0) := by rw [hw1]; simp [go_sem]
  have r2 : w1.cell? ⟨w.heap.size + 1, 2, none⟩ = some (.int .i64 0) := by rw [hw1]; simp [go_sem]
  have f0 : w1.frozen? ⟨w.heap.size + 1, 0, none⟩ = false := by rw [hw1]; simp [go_sem]
  have f1 : w1.frozen? ⟨w.heap.size + 1, 1, none⟩ = false := by rw [hw1]; simp [go_sem]
  have f2 : w1.frozen? ⟨w.heap.size + 1, 2, none⟩ = false := by rw [hw1]; simp [go_sem]
  have hne1 : ¬ w.heap.size + 1 = w1.heap.size := by omega
  have hne2 : ¬ w1.heap.size = w.heap.size + 1 := by omega
  have hlt1 : w.heap.size + 1 < w1.heap.size := by omega
  obtain ⟨C, hC⟩ : ∃ C : Int, C = (ct b p : Nat) := ⟨_, rfl⟩
  obtain ⟨M1, hM1⟩ : ∃ M : Int, M = ((mf b p).1 : Nat) := ⟨_, rfl⟩
  obtain ⟨M2, hM2⟩ : ∃ M : Int, M = ((mf b p).2 : Nat) := ⟨_, rfl⟩
  have HSP := Lib.hid (show spV b p = .agg #[.int .i64 C, .int .i64 M1, .int .i64 M2] by unfold spV; rw [hC, hM1, hM2])
  rw [HSP.out]
  clear hw1 hs hit hC hM1 hM2
  go_enter Try.func150, Try.ntmps150
  go_wp2_with (rw [← HW1.out]; refine wpList_lookM rfl _ _ rfl b m s p (by first | rfl | simp) rfl HS1.out hp' ?_; rw [if_pos HIT.out, HSP.out])
  obtain ⟨e0, e1, e2⟩ := set_three (x0 := .int .i64 C) (x1 := .int .i64 M1) (x2 := .int .i64 M2) r0 r1 r2
  have hlt3 : w.heap.size + 1 < (((w1.setCell ⟨w.heap.size + 1, 0, none⟩ (.int .i64 C)).setCell ⟨w.heap.size + 1, 1, none⟩ (.int .i64 M1)).setCell ⟨w.heap.size + 1, 2, none⟩ (.int .i64 M2)).heap.size := by simp; omega
  refine bodyPost_ret (ret_split rfl _ _ (w.heap.size + 1) (.int .i64 C) (.int .i64 M1) (.int .i64 M2) rfl ((World.cell?_alloc_lt _ _ _ hlt3).trans e0) ((World.cell?_alloc_lt _ _ _ hlt3).trans e1) ((World.cell?_alloc_lt _ _ _ hlt3).trans e2)) rfl ?_
  exact ⟨s, rfl, (((HS1.out.setCell _ _ (by show m ≠ w.heap.size + 1; omega)).setCell _ _ (by show m ≠ w.heap.size + 1; omega)).setCell _ _ (by show m ≠ w.heap.size + 1; omega)).alloc _, h1, grown_alloc6 (grown_own (grown_own (grown_own HG1.out _ (by omega) _ _) _ (by omega) _ _) _ (by omega) _ _) _⟩

/-- What the search keeps in memory: its own copy of the splitter, the result, what is found. -/
structure OfC (w : World) (n b m L fw fr : Nat) : Prop where
  cb : w.cell? ⟨n, 0, none⟩ = some (.int .i64 (b : Int))
  cm : w.cell? ⟨n, 1, none⟩ = some (.map (some m))
  r0 : w.cell? ⟨n + 1, 0, none⟩ = some (.int .i64 0)
  r1 : w.cell? ⟨n + 1, 1, none⟩ = some (.int .i64 0)
  r2 : w.cell? ⟨n + 1, 2, none⟩ = some (.int .i64 0)
  g0 : w.cell? ⟨n + 3, 0, none⟩ = some (.int .i64 (L : Int))
  g1 : w.cell? ⟨n + 3, 1, none⟩ = some (.int .i64 (fw : Int))
  g2 : w.cell? ⟨n + 3, 2, none⟩ = some (.int .i64 (fr : Int))
  rf : ∀ j, w.frozen? ⟨n + 1, j, none⟩ = false
  gf : ∀ j, w.frozen? ⟨n + 3, j, none⟩ = false
  sz : n + 4 ≤ w.heap.size

theorem OfC.kept {w w' : World} {n b m L fw fr : Nat} (h : OfC w n b m L fw fr) (hg : w.grownBy w' (some m)) (hm : m < n) : OfC w' n b m L fw fr := by
  have hne : ∀ i, n ≤ i → some i ≠ some m := fun i hi e => by cases e; omega
  have hsz := h.sz
  refine ⟨hg.cell h.cb (hne _ (by show n ≤ n; omega)), hg.cell h.cm (hne _ (by show n ≤ n; omega)), hg.cell h.r0 (hne _ (by show n ≤ n + 1; omega)), hg.cell h.r1 (hne _ (by show n ≤ n + 1; omega)), hg.cell h.r2 (hne _ (by show n ≤ n + 1; omega)), hg.cell h.g0 (hne _ (by show n ≤ n + 3; omega)), hg.cell h.g1 (hne _ (by show n ≤ n + 3; omega)), hg.cell h.g2 (hne _ (by show n ≤ n + 3; omega)),
    fun j => (hg.frozen_far ⟨n + 1, j, none⟩ (by show n + 1 < _; omega) (hne _ (by show n ≤ n + 1; omega))).trans (h.rf j), fun j => (hg.frozen_far ⟨n + 3, j, none⟩ (by show n + 3 < _; omega) (hne _ (by show n ≤ n + 3; omega))).trans (h.gf j), Nat.le_trans hsz hg.size⟩
theorem OfC.alloc {w : World} {n b m L fw fr : Nat} (h : OfC w n b m L fw fr) (o : Obj) (hm : m < n) : OfC (w.alloc o) n b m L fw fr := h.kept (World.grownBy_alloc w o _) hm
theorem OfC.drew {w : World} {n b m L fw fr : Nat} (h : OfC w n b m L fw fr) : OfC w.drew n b m L fw fr := ⟨h.cb, h.cm, h.r0, h.r1, h.r2, h.g0, h.g1, h.g2, h.rf, h.gf, h.sz⟩

end Go.Proofs.Ytgiabadkbfbilaa

/- from XWX -/
namespace Go.Proofs.Ytgiabadkbfbilaa
open Go.RowKit
set_option linter.unusedVariables false
set_option linter.unusedSimpArgs false
set_option maxRecDepth 100000

theorem OfC.other {w : World} {n b m L fw fr : Nat} (h : OfC w n b m L fw fr) (t j : Nat) (ht : n + 4 ≤ t) (x : Value) : OfC (w.setCell ⟨t, j, none⟩ x) n b m L fw fr := by
  have e : ∀ (k i : Nat), k < n + 4 → (w.setCell ⟨t, j, none⟩ x).cell? ⟨k, i, none⟩ = w.cell? ⟨k, i, none⟩ := fun k i hk => World.cell?_setCell_other _ _ _ _ (fun e => by cases e; omega)
  have ef : ∀ (k i : Nat), k < n + 4 → (w.setCell ⟨t, j, none⟩ x).frozen? ⟨k, i, none⟩ = w.frozen? ⟨k, i, none⟩ := fun k i hk => by simp [go_sem]
  exact ⟨(e _ _ (by omega)).trans h.cb, (e _ _ (by omega)).trans h.cm, (e _ _ (by omega)).trans h.r0, (e _ _ (by omega)).trans h.r1, (e _ _ (by omega)).trans h.r2, (e _ _ (by omega)).trans h.g0, (e _ _ (by omega)).trans h.g1, (e _ _ (by omega)).trans h.g2,
    fun i => (ef _ _ (by omega)).trans (h.rf i), fun i => (ef _ _ (by omega)).trans (h.gf i), by simpa using h.sz⟩
theorem OfC.setL {w : World} {n b m L fw fr : Nat} (h : OfC w n b m L fw fr) (x : Nat) : OfC (w.setCell ⟨n + 3, 0, none⟩ (.int .i64 (x : Int))) n b m x fw fr := by
  have e : ∀ (a : Addr), a ≠ ⟨n + 3, 0, none⟩ → (w.setCell ⟨n + 3, 0, none⟩ (.int .i64 (x : Int))).cell? a = w.cell? a := fun a ha => World.cell?_setCell_other _ _ _ _ (fun e => ha e.symm)
  have ef : ∀ (a : Addr), (w.setCell ⟨n + 3, 0, none⟩ (.int .i64 (x : Int))).frozen? a = w.frozen? a := fun a => by simp [go_sem]
  exact ⟨(e _ (by simp)).trans h.cb, (e _ (by simp)).trans h.cm, (e _ (by simp)).trans h.r0, (e _ (by simp)).trans h.r1, (e _ (by simp)).trans h.r2, World.cell?_setCell_same _ _ _ h.g0, (e _ (by simp)).trans h.g1, (e _ (by simp)).trans h.g2,
    fun i => (ef _).trans (h.rf i), fun i => (ef _).trans (h.gf i), by simpa using h.sz⟩
theorem OfC.set1 {w : World} {n b m L fw fr : Nat} (h : OfC w n b m L fw fr) (x : Nat) : OfC (w.setCell ⟨n + 3, 1, none⟩ (.int .i64 (x : Int))) n b m L x fr := by
  have e : ∀ (a : Addr), a ≠ ⟨n + 3, 1, none⟩ → (w.setCell ⟨n + 3, 1, none⟩ (.int .i64 (x : Int))).cell? a = w.cell? a := fun a ha => World.cell?_setCell_other _ _ _ _ (fun e => ha e.symm)
  have ef : ∀ (a : Addr), (w.setCell ⟨n + 3, 1, none⟩ (.int .i64 (x : Int))).frozen? a = w.frozen? a := fun a => by simp [go_sem]
  exact ⟨(e _ (by simp)).trans h.cb, (e _ (by simp)).trans h.cm, (e _ (by simp)).trans h.r0, (e _ (by simp)).trans h.r1, (e _ (by simp)).trans h.r2, (e _ (by simp)).trans h.g0, World.cell?_setCell_same _ _ _ h.g1, (e _ (by simp)).trans h.g2,
    fun i => (ef _).trans (h.rf i), fun i => (ef _).trans (h.gf i), by simpa using h.sz⟩
theorem OfC.set2 {w : World} {n b m L fw fr : Nat} (h : OfC w n b m L fw fr) (x : Nat) : OfC (w.setCell ⟨n + 3, 2, none⟩ (.int .i64 (x : Int))) n b m L fw x := by
  have e : ∀ (a : Addr), a ≠ ⟨n + 3, 2, none⟩ → (w.setCell ⟨n + 3, 2, none⟩ (.int .i64 (x : Int))).cell? a = w.cell? a := fun a ha => World.cell?_setCell_other _ _ _ _ (fun e => ha e.symm)
  have ef : ∀ (a : Addr), (w.setCell ⟨n + 3, 2, none⟩ (.int .i64 (x : Int))).frozen? a = w.frozen? a := fun a => by simp [go_sem]
  exact ⟨(e _ (by simp)).trans h.cb, (e _ (by simp)).trans h.cm, (e _ (by simp)).trans h.r0, (e _ (by simp)).trans h.r1, (e _ (by simp)).trans h.r2, (e _ (by simp)).trans h.g0, (e _ (by simp)).trans h.g1, World.cell?_setCell_same _ _ _ h.g2,
    fun i => (ef _).trans (h.rf i), fun i => (ef _).trans (h.gf i), by simpa using h.sz⟩

set_option maxHeartbeats 8000000 in
theorem of_miss (b p m : Nat) (s : Nat → Bool) (w : World) (hb : 2 ≤ b) (hb' : b ≤ 16) (hp : 2 ≤ p) (hp' : p ≤ 1000000000000) (hs : Sm w b m s) (h1 : s 1 = true) (hit : s p = false)
    (IH : ∀ q : Nat, 1 ≤ q → q < p → ∀ (m : Nat) (s : Nat → Bool) (w : World), Sm w b m s → s 1 = true → Calls Try.prog 150 #[.agg #[.int .i64 (b : Int), .map (some m)], .int .i64 (q : Int)] w fun e w' => ∃ s', e = .returned (spV b q) ∧ Sm w' b m s' ∧ s' 1 = true ∧ w.grownBy w' (some m)) :
    Calls Try.prog 150 #[.agg #[.int .i64 (b : Int), .map (some m)], .int .i64 (p : Int)] w fun e w' => ∃ s', e = .returned (spV b p) ∧ Sm w' b m s' ∧ s' 1 = true ∧ w.grownBy w' (some m) := by
  have hml := hs.lt
  have HIT := Lib.hid (show ¬ s p = true by rw [hit]; simp)
  have HI := Lib.hid IH
  obtain ⟨w1, hw1⟩ : ∃ w1, w1 = (w.alloc (.cells #[.int .i64 (b : Int), .map (some m)] 119)).alloc (.cells #[.int .i64 0, .int .i64 0, .int .i64 0] 122) := ⟨_, rfl⟩
  have HW1 := Lib.hid hw1
  have HS1 := Lib.hid (show Sm w1 b m s by rw [hw1]; exact (hs.alloc _).alloc _)
  have HG1 := Lib.hid (show w.grownBy w1 (some m) by rw [hw1]; exact grown_alloc6 (grown_alloc6 (World.grownBy.refl _ _) _) _)
  have HOF := Lib.hid (show OfC ((w1.alloc (.cells #[.int .i64 0, .int .i64 0, .int .i64 0] 122)).alloc (.cells #[.int .i64 0, .int .i64 0, .int .i64 0] 122)) w.heap.size b m 0 0 0 by
    rw [hw1]
    refine ⟨?_, ?_, ?_, ?_, ?_, ?_, ?_, ?_, fun j => ?_, fun j => ?_, ?_⟩ <;> simp [go_sem])
  have cm : w1.cell? ⟨w.heap.size, 1, none⟩ = some (.map (some m)) := by rw [hw1]; simp [go_sem]
  have hsz1 : w1.heap.size = w.heap.size + 2 := by rw [hw1, World.size_alloc, World.size_alloc]
  have HCT := Lib.hid (ct_step b p hp)
  have HMF := Lib.hid (mf_step b p hp)
  have hcl := ct_lt b p hb' (by omega) hp'
  have hk : 2 + (b - 2) = b := by omega
  clear hw1 hs hit IH
  go_enter Try.func150, Try.ntmps150
  go_wp2_with (rw [← HW1.out]; refine wpList_lookM rfl _ _ rfl b m s p (by first | rfl | simp) rfl HS1.out hp' ?_; rw [if_neg HIT.out])
  go_loopw [8] (fun y wr => ∃ (d k L fw fr : Nat) (s' : Nat → Bool), y = .int .i64 (d : Int) ∧ d + k = b ∧ 2 ≤ d ∧ Sm wr b m s' ∧ Hid (s' 1 = true) ∧ OfC wr w.heap.size b m L fw fr ∧ Hid (L + ctL (ct b) p k d = ct b p) ∧ Hid (mfL (ct b) (mf b) p k d (fw, fr) = mf b p) ∧ fw ≤ 1000000000001 ∧ w.grownBy wr (some m)) (fun y _ => (16 - intOf y).toNat)
  case atStart => exact ⟨2, b - 2, 0, 0, 0, s, rfl, hk, by omega, (HS1.out.alloc _).alloc _, Lib.hid h1, by simpa [hsz1] using HOF.out, Lib.hid (by rw [Nat.zero_add, HCT.out]), Lib.hid HMF.out.symm, by omega, grown_alloc6 (grown_alloc6 HG1.out _) _⟩
  case round =>
    obtain ⟨d, k, L, fw, fr, s', rfl, hdk, hd2, hsm, HS1', hof, HL, HF, hfw, hgr⟩ := hrel
    have HSM := Lib.hid hsm
    have HOC := Lib.hid hof
    have HGR := Lib.hid hgr
    have cb := hof.cb
    have cmm := hof.cm
    clear hsm hof hgr
    by_cases hdb : d < b
    · obtain ⟨k, rfl⟩ : ∃ j, k = j + 1 := ⟨k - 1, by omega⟩
      have hdi : (d : Int) < (b : Int) := by omega
      obtain ⟨r, hr⟩ : ∃ r : Nat, r = p % d := ⟨_, rfl⟩
      have hri : (p : Int) % (d : Int) = (r : Int) := by rw [hr]; exact (Int.natCast_emod p d).symm
      by_cases hr0 : r = 0
      · have hmod : p % d = 0 := by omega
        obtain ⟨q, hq⟩ : ∃ q : Nat, q = p / d := ⟨_, rfl⟩
        have hqi : Int.tdiv (p : Int) (d : Int) = (q : Int) := by rw [Int.tdiv_eq_ediv_of_nonneg (by omega), hq]; exact (Int.natCast_ediv p d).symm
        have hqe : (p : Int) / (d : Int) = (q : Int) := by rw [hq]; exact (Int.natCast_ediv p d).symm
        have hqn : p / d = q := hq.symm
        have hq1 : 1 ≤ q := by rw [hq]; exact Nat.div_pos (Nat.le_of_dvd (by omega) (Nat.dvd_of_mod_eq_zero hmod)) (by omega)
        have hqp : q < p := by rw [hq]; exact Nat.div_lt_self (by omega) (by omega)
        have hd0 : ((d : Int) == 0) = false := beq_no (by omega)
        have hdz : ¬ (d : Int) = 0 := by omega
        have hdz2 : ¬ d = 0 := by omega
        have hszr := HOC.out.sz
        have HNE := Lib.hid (show some wr.heap.size ≠ some m from fun e => by cases e; omega)
        have hwq : IntKind.i64.wrap (q : Int) = (q : Int) := IntWalk.i64_in _ (by omega)
        have HQ := Lib.hid hq
        have HMD := Lib.hid hmod
        subst hr0
        clear hr hq hmod
        go_wp2
        obtain ⟨C, hC⟩ : ∃ C : Nat, C = ct b q := ⟨_, rfl⟩
        obtain ⟨F1, hF1⟩ : ∃ F : Nat, F = (mf b q).1 := ⟨_, rfl⟩
        obtain ⟨F2, hF2⟩ : ∃ F : Nat, F = (mf b q).2 := ⟨_, rfl⟩
        have hmb := mf_bd b hb' q hq1
        rw [← hF1, ← hF2] at hmb
        obtain ⟨hF1b, hF2b⟩ := hmb
        have hspv : spV b q = .agg #[.int .i64 (C : Int), .int .i64 (F1 : Int), .int .i64 (F2 : Int)] := by unfold spV; rw [hC, hF1, hF2]
        obtain ⟨T, hT⟩ : ∃ T : Nat, T = L + C := ⟨_, rfl⟩
        have HLC := Lib.hid (show T + ctL (ct b) p k (d + 1) = ct b p by have := HL.out; rw [ctL, if_pos HMD.out, ← HQ.out, ← hC] at this; omega)
        have hTb : T ≤ 9223372036854775807 := by have := HLC.out; omega
        have hTb2 : (T : Int) ≤ 9223372036854775807 := by omega
        have hTi : (L : Int) + (C : Int) = (T : Int) := by omega
        have HT := Lib.hid hT
        clear hT
        have HFC := Lib.hid (show mfL (ct b) (mf b) p k (d + 1) (if C ≠ 0 ∧ (fr = 0 ∨ F1 + 1 < fw) then (F1 + 1, d) else (fw, fr)) = mf b p by
          have := HF.out
          rw [mfL, ← HQ.out, ← hC, ← hF1] at this
          by_cases hc : C ≠ 0 ∧ (fr = 0 ∨ F1 + 1 < fw)
          · rw [if_pos hc]; rw [if_pos ⟨HMD.out, hc⟩] at this; exact this
          · rw [if_neg hc]; rw [if_neg (fun c => hc c.2)] at this; exact this)
        have ha := HI.out q hq1 hqp m s' wr.drew HSM.out HS1'.out
        rw [hspv] at ha
        have HA := Lib.hid ha
        clear hC hF1 hF2 ha
        have ha2 := (HI.out q hq1 hqp m s' ((wr.alloc (.cells #[.int .i64 0, .int .i64 0, .int .i64 0] 122)).drew) (show Sm (wr.alloc _).drew b m s' from HSM.out.alloc _) HS1'.out)
        rw [hspv] at ha2
        have HA2 := Lib.hid ha2
        clear hspv ha2
        have KC0 := Lib.hid (show ((wr.alloc (.cells #[.int .i64 0, .int .i64 0, .int .i64 0] 122)).drew).cell? ⟨wr.heap.size, 0, none⟩ = some (.int .i64 0) by simp [go_sem])
        have KC1 := Lib.hid (show ((wr.alloc (.cells #[.int .i64 0, .int .i64 0, .int .i64 0] 122)).drew).cell? ⟨wr.heap.size, 1, none⟩ = some (.int .i64 0) by simp [go_sem])
        have KC2 := Lib.hid (show ((wr.alloc (.cells #[.int .i64 0, .int .i64 0, .int .i64 0] 122)).drew).cell? ⟨wr.heap.size, 2, none⟩ = some (.int .i64 0) by simp [go_sem])
        have KF := Lib.hid (show ∀ j, ((wr.alloc (.cells #[.int .i64 0, .int .i64 0, .int .i64 0] 122)).drew).frozen? ⟨wr.heap.size, j, none⟩ = false from fun j => by simp [go_sem])
        have KZ := Lib.hid (show wr.heap.size < ((wr.alloc (.cells #[.int .i64 0, .int .i64 0, .int .i64 0] 122)).drew).heap.size by show wr.heap.size < (wr.alloc _).heap.size; rw [World.size_alloc]; exact Nat.lt_succ_self _)
        go_region_held3 (fun w' => w'.cell? ⟨w.heap.size, 0, none⟩ = some (.int .i64 (b : Int)) ∧ w'.cell? ⟨w.heap.size, 1, none⟩ = some (.map (some m))) (first | exact ⟨HOC.out.cb, HOC.out.cm⟩ | exact ⟨(HOC.out.alloc _ hml).drew.cb, (HOC.out.alloc _ hml).drew.cm⟩ | exact ⟨OC2.out.cb, OC2.out.cm⟩ | exact ⟨(OC2.out.alloc _ hml).cb, (OC2.out.alloc _ hml).cm⟩ | exact ⟨(((OC2.out.other wr.heap.size 0 hszr _).other wr.heap.size 1 hszr _).other wr.heap.size 2 hszr _).cb, (((OC2.out.other wr.heap.size 0 hszr _).other wr.heap.size 1 hszr _).other wr.heap.size 2 hszr _).cm⟩) (first
          | (go_at_call 150; (with_reducible refine HA.out.mono ?_); go_loud (rintro e w2 ⟨s2, rfl, hs2, h12, hg2⟩; have HS2 := Lib.hid hs2; have H12 := Lib.hid h12; have OC2 := Lib.hid (HOC.out.drew.kept hg2 hml); have HG2 := Lib.hid (show wr.grownBy w2 (some m) from ⟨hg2.os, hg2.tape, hg2.output, hg2.size, hg2.block⟩); clear hs2 h12 hg2))
          | (go_at_call 150; (with_reducible refine HA2.out.mono ?_); go_loud (rintro e w2 ⟨s2, rfl, hs2, h12, hg2⟩; have HS2 := Lib.hid hs2; have H12 := Lib.hid h12; have OC2 := Lib.hid ((HOC.out.alloc _ hml).drew.kept hg2 hml); have HG2 := Lib.hid (show wr.grownBy w2 (some m) from grown_trans (show wr.grownBy (wr.alloc _).drew (some m) from grown_drew (World.grownBy_alloc wr _ _)) hg2); have k0 := hg2.cell KC0.out HNE.out; have k1 := hg2.cell KC1.out HNE.out; have k2 := hg2.cell KC2.out HNE.out; have kf0 := (hg2.frozen_far ⟨wr.heap.size, 0, none⟩ KZ.out HNE.out).trans (KF.out 0); have kf1 := (hg2.frozen_far ⟨wr.heap.size, 1, none⟩ KZ.out HNE.out).trans (KF.out 1); have kf2 := (hg2.frozen_far ⟨wr.heap.size, 2, none⟩ KZ.out HNE.out).trans (KF.out 2); clear hs2 h12 hg2)))
        · obtain ⟨wq, hwq⟩ : ∃ wq, wq = w2.alloc (.cells #[.int .i64 (C : Int), .int .i64 (F1 : Int), .int .i64 (F2 : Int)] 122) := ⟨_, rfl⟩
          have hsz2 := HG2.out.size
          have HSq := Lib.hid (show Sm wq b m s2 by rw [hwq]; exact HS2.out.alloc _)
          have HGq := Lib.hid (show w.grownBy wq (some m) by rw [hwq]; exact grown_alloc6 (grown_trans HGR.out HG2.out) _)
          have OCq := Lib.hid (show OfC wq w.heap.size b m L fw fr by rw [hwq]; exact OC2.out.alloc _ hml)
          have kb0 : wq.cell? ⟨w2.heap.size, 0, none⟩ = some (.int .i64 (C : Int)) := by rw [hwq]; simp [go_sem]
          have kb1 : wq.cell? ⟨w2.heap.size, 1, none⟩ = some (.int .i64 (F1 : Int)) := by rw [hwq]; simp [go_sem]
          rw [← hwq]
          clear hwq
          have q0 := OCq.out.g0
          have q1 := OCq.out.g1
          have q2 := OCq.out.g2
          have qf0 := OCq.out.gf 0
          have qf1 := OCq.out.gf 1
          have qf2 := OCq.out.gf 2
          have qb := OCq.out.cb
          have nb1 : ¬ w.heap.size + 3 = w2.heap.size := by omega
          have nb2 : ¬ w2.heap.size = w.heap.size + 3 := by omega
          by_cases hc0 : C = 0
          · subst hc0
            have HFD := Lib.hid (show mfL (ct b) (mf b) p k (d + 1) (fw, fr) = mf b p by have := HFC.out; rw [if_neg (fun c => c.1 rfl)] at this; exact this)
            have HLD := Lib.hid (show L + ctL (ct b) p k (d + 1) = ct b p by have := HLC.out; rw [HT.out, Nat.add_zero] at this; exact this)
            go_wp2
            go_roundw
            case rel => exact ⟨d + 1, k, L, fw, fr, s2, by go_num, by omega, by omega, HSq.out, H12, OCq.out, HLD, HFD, by omega, HGq.out⟩
            case measure => (simp [intOf]; omega)
          · have hcb : ((C : Int) == 0) = false := beq_no (by omega)
            have hcn : ¬ (C : Int) = 0 := by omega
            by_cases hfr : fr = 0
            · have HFD := Lib.hid (show mfL (ct b) (mf b) p k (d + 1) (F1 + 1, d) = mf b p by have := HFC.out; rw [if_pos ⟨hc0, .inl hfr⟩] at this; exact this)
              subst hfr
              go_wp2
              go_roundw
              case rel => exact ⟨d + 1, k, T, F1 + 1, d, s2, by go_num, by omega, by omega, ((HSq.out.setCell _ _ (by show m ≠ w.heap.size + 3; omega)).setCell _ _ (by show m ≠ w.heap.size + 3; omega)).setCell _ _ (by show m ≠ w.heap.size + 3; omega), H12, by have h9 := ((OCq.out.setL T).set1 (F1 + 1)).set2 d; first | exact h9 | (simpa using h9), HLC, HFD, by omega, grown_own (grown_own (grown_own HGq.out _ (by omega) _ _) _ (by omega) _ _) _ (by omega) _ _⟩
              case measure => (simp [intOf]; omega)
            · have hfb : ((fr : Int) == 0) = false := beq_no (by omega)
              have hfn : ¬ (fr : Int) = 0 := by omega
              by_cases hlt : F1 + 1 < fw
              · have HFD := Lib.hid (show mfL (ct b) (mf b) p k (d + 1) (F1 + 1, d) = mf b p by have := HFC.out; rw [if_pos ⟨hc0, .inr hlt⟩] at this; exact this)
                go_wp2
                go_roundw
                case rel => exact ⟨d + 1, k, T, F1 + 1, d, s2, by go_num, by omega, by omega, ((HSq.out.setCell _ _ (by show m ≠ w.heap.size + 3; omega)).setCell _ _ (by show m ≠ w.heap.size + 3; omega)).setCell _ _ (by show m ≠ w.heap.size + 3; omega), H12, by have h9 := ((OCq.out.setL T).set1 (F1 + 1)).set2 d; first | exact h9 | (simpa using h9), HLC, HFD, by omega, grown_own (grown_own (grown_own HGq.out _ (by omega) _ _) _ (by omega) _ _) _ (by omega) _ _⟩
                case measure => (simp [intOf]; omega)
              · have HFD := Lib.hid (show mfL (ct b) (mf b) p k (d + 1) (fw, fr) = mf b p by have := HFC.out; rw [if_neg (fun c => c.2.elim hfr hlt)] at this; exact this)
                go_wp2
                go_roundw
                case rel => exact ⟨d + 1, k, T, fw, fr, s2, by go_num, by omega, by omega, HSq.out.setCell _ _ (by show m ≠ w.heap.size + 3; omega), H12, by have h9 := OCq.out.setL T; first | exact h9 | (simpa using h9), HLC, HFD, by omega, grown_own HGq.out _ (by omega) _ _⟩
                case measure => (simp [intOf]; omega)
        · obtain ⟨wq, hwq⟩ : ∃ wq, wq = (((w2.setCell ⟨wr.heap.size, 0, none⟩ (.int .i64 (C : Int))).setCell ⟨wr.heap.size, 1, none⟩ (.int .i64 (F1 : Int))).setCell ⟨wr.heap.size, 2, none⟩ (.int .i64 (F2 : Int))) := ⟨_, rfl⟩
          obtain ⟨e0, e1, e2⟩ := set_three (x0 := .int .i64 (C : Int)) (x1 := .int .i64 (F1 : Int)) (x2 := .int .i64 (F2 : Int)) k0 k1 k2
          rw [← hwq] at e0 e1 e2
          have HSq := Lib.hid (show Sm wq b m s2 by rw [hwq]; exact ((HS2.out.setCell _ _ (by show m ≠ wr.heap.size; omega)).setCell _ _ (by show m ≠ wr.heap.size; omega)).setCell _ _ (by show m ≠ wr.heap.size; omega))
          have HGq := Lib.hid (show w.grownBy wq (some m) by rw [hwq]; exact grown_own (grown_own (grown_own (grown_trans HGR.out HG2.out) _ (by omega) _ _) _ (by omega) _ _) _ (by omega) _ _)
          have OCq := Lib.hid (show OfC wq w.heap.size b m L fw fr by rw [hwq]; exact ((OC2.out.other wr.heap.size 0 hszr _).other wr.heap.size 1 hszr _).other wr.heap.size 2 hszr _)
          rw [← hwq]
          clear hwq k0 k1 k2 kf0 kf1 kf2
          have q0 := OCq.out.g0
          have q1 := OCq.out.g1
          have q2 := OCq.out.g2
          have qf0 := OCq.out.gf 0
          have qf1 := OCq.out.gf 1
          have qf2 := OCq.out.gf 2
          have qb := OCq.out.cb
          have nb1 : ¬ w.heap.size + 3 = wr.heap.size := by omega
          have nb2 : ¬ wr.heap.size = w.heap.size + 3 := by omega
          by_cases hc0 : C = 0
          · subst hc0
            have HFD := Lib.hid (show mfL (ct b) (mf b) p k (d + 1) (fw, fr) = mf b p by have := HFC.out; rw [if_neg (fun c => c.1 rfl)] at this; exact this)
            have HLD := Lib.hid (show L + ctL (ct b) p k (d + 1) = ct b p by have := HLC.out; rw [HT.out, Nat.add_zero] at this; exact this)
            go_wp2
            go_roundw
            case rel => exact ⟨d + 1, k, L, fw, fr, s2, by go_num, by omega, by omega, HSq.out, H12, OCq.out, HLD, HFD, by omega, HGq.out⟩
            case measure => (simp [intOf]; omega)
          · have hcb : ((C : Int) == 0) = false := beq_no (by omega)
            have hcn : ¬ (C : Int) = 0 := by omega
            by_cases hfr : fr = 0
            · have HFD := Lib.hid (show mfL (ct b) (mf b) p k (d + 1) (F1 + 1, d) = mf b p by have := HFC.out; rw [if_pos ⟨hc0, .inl hfr⟩] at this; exact this)
              subst hfr
              go_wp2
              go_roundw
              case rel => exact ⟨d + 1, k, T, F1 + 1, d, s2, by go_num, by omega, by omega, ((HSq.out.setCell _ _ (by show m ≠ w.heap.size + 3; omega)).setCell _ _ (by show m ≠ w.heap.size + 3; omega)).setCell _ _ (by show m ≠ w.heap.size + 3; omega), H12, by have h9 := ((OCq.out.setL T).set1 (F1 + 1)).set2 d; first | exact h9 | (simpa using h9), HLC, HFD, by omega, grown_own (grown_own (grown_own HGq.out _ (by omega) _ _) _ (by omega) _ _) _ (by omega) _ _⟩
              case measure => (simp [intOf]; omega)
            · have hfb : ((fr : Int) == 0) = false := beq_no (by omega)
              have hfn : ¬ (fr : Int) = 0 := by omega
              by_cases hlt : F1 + 1 < fw
              · have HFD := Lib.hid (show mfL (ct b) (mf b) p k (d + 1) (F1 + 1, d) = mf b p by have := HFC.out; rw [if_pos ⟨hc0, .inr hlt⟩] at this; exact this)
                go_wp2
                go_roundw
                case rel => exact ⟨d + 1, k, T, F1 + 1, d, s2, by go_num, by omega, by omega, ((HSq.out.setCell _ _ (by show m ≠ w.heap.size + 3; omega)).setCell _ _ (by show m ≠ w.heap.size + 3; omega)).setCell _ _ (by show m ≠ w.heap.size + 3; omega), H12, by have h9 := ((OCq.out.setL T).set1 (F1 + 1)).set2 d; first | exact h9 | (simpa using h9), HLC, HFD, by omega, grown_own (grown_own (grown_own HGq.out _ (by omega) _ _) _ (by omega) _ _) _ (by omega) _ _⟩
                case measure => (simp [intOf]; omega)
              · have HFD := Lib.hid (show mfL (ct b) (mf b) p k (d + 1) (fw, fr) = mf b p by have := HFC.out; rw [if_neg (fun c => c.2.elim hfr hlt)] at this; exact this)
                go_wp2
                go_roundw
                case rel => exact ⟨d + 1, k, T, fw, fr, s2, by go_num, by omega, by omega, HSq.out.setCell _ _ (by show m ≠ w.heap.size + 3; omega), H12, by have h9 := OCq.out.setL T; first | exact h9 | (simpa using h9), HLC, HFD, by omega, grown_own HGq.out _ (by omega) _ _⟩
                case measure => (simp [intOf]; omega)
      · have hrn : ¬ (r : Int) = 0 := by omega
        have HMD := Lib.hid (show ¬ p % d = 0 by omega)
        clear hr
        go_wp2
        go_roundw
        case rel => exact ⟨d + 1, k, L, fw, fr, s', by go_num, by omega, by omega, HSM.out, HS1', HOC.out, Lib.hid (by have := HL.out; rw [ctL, if_neg HMD.out, Nat.zero_add] at this; exact this), Lib.hid (by have := HF.out; rw [mfL, if_neg (fun c => HMD.out c.1)] at this; exact this), hfw, HGR.out⟩
        case measure => (simp [intOf]; omega)
    · have hk0 : k = 0 := by omega
      subst hk0
      have HLE := Lib.hid (show L = ct b p by have := HL.out; rw [ctL, Nat.add_zero] at this; exact this)
      have HFE := Lib.hid (show (fw, fr) = mf b p from HF.out)
      have HSPV := Lib.hid (show spV b p = .agg #[.int .i64 (L : Int), .int .i64 (fw : Int), .int .i64 (fr : Int)] by unfold spV; rw [← HLE.out, ← HFE.out])
      have g0 := HOC.out.g0
      have g1 := HOC.out.g1
      have g2 := HOC.out.g2
      go_wp2_with (refine wpList_putM rfl _ _ _ (.inl rfl) b m s' p (by first | rfl | simp) rfl (by rw [HSPV.out]; rfl) HSM.out hp' ?_; intro w3 hs3 hg3; have HS3 := Lib.hid hs3; have OC3 := Lib.hid (HOC.out.kept hg3 hml); have HG3 := Lib.hid (grown_trans HGR.out hg3); have t0 := OC3.out.g0; have t1 := OC3.out.g1; have t2 := OC3.out.g2; have r0 := OC3.out.r0; have r1 := OC3.out.r1; have r2 := OC3.out.r2; have f0 := OC3.out.rf 0; have f1 := OC3.out.rf 1; have f2 := OC3.out.rf 2; clear hs3 hg3)
      obtain ⟨e0, e1, e2⟩ := set_three (x0 := .int .i64 (L : Int)) (x1 := .int .i64 (fw : Int)) (x2 := .int .i64 (fr : Int)) r0 r1 r2
      refine bodyPost_ret (ret_split rfl _ _ (w.heap.size + 1) _ _ _ rfl e0 e1 e2) rfl ?_
      exact ⟨_, by rw [HSPV.out], ((HS3.out.setCell _ _ (by show m ≠ w.heap.size + 1; omega)).setCell _ _ (by show m ≠ w.heap.size + 1; omega)).setCell _ _ (by show m ≠ w.heap.size + 1; omega), by have := HS1'.out; simp [adj, this], grown_own (grown_own (grown_own HG3.out _ (by omega) _ _) _ (by omega) _ _) _ (by omega) _ _⟩

end Go.Proofs.Ytgiabadkbfbilaa

/- from XWY -/
namespace Go.Proofs.Ytgiabadkbfbilaa
open Go.RowKit
set_option linter.unusedVariables false
set_option linter.unusedSimpArgs false
set_option maxRecDepth 100000

theorem of_any (b : Nat) (hb : 2 ≤ b) (hb' : b ≤ 16) : ∀ p : Nat, 1 ≤ p → p ≤ 1000000000000 → ∀ (m : Nat) (s : Nat → Bool) (w : World), Sm w b m s → s 1 = true →
    Calls Try.prog 150 #[.agg #[.int .i64 (b : Int), .map (some m)], .int .i64 (p : Int)] w fun e w' => ∃ s', e = .returned (spV b p) ∧ Sm w' b m s' ∧ s' 1 = true ∧ w.grownBy w' (some m) := by
  intro p
  induction p using Nat.strongRecOn with
  | ind p ih =>
    intro hp hp' m s w hs h1
    by_cases hit : s p = true
    · exact of_hit b p m s w hb hb' hp hp' hs h1 hit
    · have hp2 : 2 ≤ p := by
        by_cases e : p = 1
        · subst e; exact absurd h1 hit
        · omega
      exact of_miss b p m s w hb hb' hp2 hp' hs h1 (by simpa using hit) (fun q hq1 hq m s w hs h1 => ih q hq hq1 (by omega) m s w hs h1)

theorem countWithProduct_any (p b : Nat) (w : World) (hp : 1 ≤ p) (hp' : p ≤ 1000000000000) (hb : 2 ≤ b) (hb' : b ≤ 16) :
    Calls Try.prog 108 #[.int .i64 (b : Int), .int .i64 (p : Int)] w fun e w' => e = .returned (.int .i64 ((ct b p : Nat) : Int)) ∧ Below w.heap.size w w' := by
  have hfd0 : ∀ (x y z : Value) (w' : World), (Instr.field 122 (.agg #[x, y, z]) 0).run Try.prog w' = .ok x w' := fun _ _ _ _ => by kernel_rfl
  obtain ⟨C, hC⟩ : ∃ C : Int, C = ((ct b p : Nat) : Int) := ⟨_, rfl⟩
  have HC := Lib.hid hC
  rw [← hC]
  have HSP := Lib.hid (show spV b p = .agg #[.int .i64 C, .int .i64 ((mf b p).1 : Nat), .int .i64 ((mf b p).2 : Nat)] by unfold spV; rw [hC])
  clear hC
  go_enter Try.func108, Try.ntmps108
  go_wp2_with (first | (go_at_call 149; go_loud (refine (splitter_any b _).mono ?_; rintro e w1 ⟨m, s, rfl, hs, h1, hm, hbl⟩; have HS := Lib.hid hs; have H1 := Lib.hid h1; have HB := Lib.hid hbl; clear hs h1 hbl)) | (go_at_call 150; go_loud (refine (of_any b hb hb' p hp hp' m s _ HS.out H1.out).mono ?_; rw [HSP.out]; rintro e w2 ⟨s2, rfl, hs2, h12, hg2⟩; have HB2 := Lib.hid (HB.out.grown hg2 HB.out.size (fun k hk => by cases hk; exact hm)); clear hs2 h12 hg2)))
  go_ret
  exact ⟨rfl, HB2.out⟩

theorem prCount_any (b : Nat) (hb : 2 ≤ b) (hb' : b ≤ 16) : ∀ (p : Nat) (w : World), 1 ≤ p → p ≤ 1000000000000 →
    Calls Try.prog 109 #[.int .i64 (p : Int), .int .i64 (b : Int)] w fun e w' => e = .returned (.int .i64 ((ct b p : Nat) : Int)) ∧ w = w' := by
  intro p
  induction p using Nat.strongRecOn with
  | ind p ih =>
    intro w hp hp'
    by_cases hp1 : p = 1
    · have HC := Lib.hid (ct_one b p (by omega))
      subst hp1
      go_enter Try.func109, Try.ntmps109
      go_wp2
      go_ret
      exact ⟨by rw [HC.out]; rfl, rfl⟩
    · have hbe : ((p : Int) == 1) = false := beq_no (by omega)
      have HI := Lib.hid ih
      have HCT := Lib.hid (ct_step b p (by omega))
      have hcl := ct_lt b p hb' hp hp'
      obtain ⟨CP, hCP⟩ : ∃ CP, CP = ct b p := ⟨_, rfl⟩
      have HCP := Lib.hid hCP
      rw [← hCP] at hcl ⊢
      have hk : 2 + (b - 2) = b := by omega
      clear ih hp1 hCP
      go_enter Try.func109, Try.ntmps109
      go_wp2
      go_loop [5, 6] (fun c y => ∃ d k L : Nat, c = .int .i64 (L : Int) ∧ y = .int .i64 (d : Int) ∧ d + k = b ∧ 2 ≤ d ∧ Hid (L + ctL (ct b) p k d = CP)) (fun _ y => (16 - intOf y).toNat)
      case atStart => exact ⟨2, b - 2, 0, rfl, rfl, hk, by omega, Lib.hid (by rw [Nat.zero_add, ← HCT.out, HCP.out])⟩
      case round =>
        obtain ⟨d, k, L, rfl, rfl, hdk, hd2, HL⟩ := hrel
        by_cases hdb : d < b
        · obtain ⟨k, rfl⟩ : ∃ j, k = j + 1 := ⟨k - 1, by omega⟩
          obtain ⟨r, hr⟩ : ∃ r : Nat, r = p % d := ⟨_, rfl⟩
          have hri : (p : Int) % (d : Int) = (r : Int) := by rw [hr]; exact (Int.natCast_emod p d).symm
          by_cases hr0 : r = 0
          · have hmod : p % d = 0 := by omega
            obtain ⟨q, hq⟩ : ∃ q : Nat, q = p / d := ⟨_, rfl⟩
            have hqe : (p : Int) / (d : Int) = (q : Int) := by rw [hq]; exact (Int.natCast_ediv p d).symm
            have hq1 : 1 ≤ q := by rw [hq]; exact Nat.div_pos (Nat.le_of_dvd (by omega) (Nat.dvd_of_mod_eq_zero hmod)) (by omega)
            have hqp : q < p := by rw [hq]; exact Nat.div_lt_self (by omega) (by omega)
            obtain ⟨C, hC⟩ : ∃ C : Nat, C = ct b q := ⟨_, rfl⟩
            have HC := Lib.hid hC
            obtain ⟨T, hT⟩ : ∃ T : Nat, T = L + C := ⟨_, rfl⟩
            have HLC := Lib.hid (show T + ctL (ct b) p k (d + 1) = CP by have := HL.out; rw [ctL, if_pos hmod, ← hq, ← hC] at this; omega)
            have hTb2 : (T : Int) ≤ 9223372036854775807 := by have := HLC.out; omega
            have hTi : (L : Int) + (C : Int) = (T : Int) := by omega
            subst hr0
            clear hr hq hmod hC hT
            go_wp2_with (go_at_call 109; go_loud (refine (HI.out q hqp _ hq1 (by omega)).mono ?_; rw [← HC.out]; rintro e w1 ⟨rfl, rfl⟩))
            go_round
            case rel => exact ⟨d + 1, k, T, by go_num, by go_num, by omega, by omega, HLC⟩
            case measure => (simp [intOf]; omega)
          · have hrn : ¬ (r : Int) = 0 := by omega
            have HMD := Lib.hid (show ¬ p % d = 0 by omega)
            clear hr
            go_wp2
            go_round
            case rel => exact ⟨d + 1, k, L, rfl, by go_num, by omega, by omega, Lib.hid (by have := HL.out; rw [ctL, if_neg HMD.out, Nat.zero_add] at this; exact this)⟩
            case measure => (simp [intOf]; omega)
        · have hk0 : k = 0 := by omega
          subst hk0
          have HE := Lib.hid (show L = CP by have := HL.out; rw [ctL, Nat.add_zero] at this; exact this)
          go_wp2
          go_ret
          exact ⟨by rw [← HE.out]; rfl, rfl⟩

end Go.Proofs.Ytgiabadkbfbilaa
