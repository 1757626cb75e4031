/-
  The program's splits, told once each.
-/
import Derived.Test.YtdjemoekkjbkiaaWU
namespace Go.Proofs.Ytdjemoekkjbkiaa
open Go.RowKit
set_option linter.unusedVariables false
set_option linter.unusedSimpArgs false
set_option maxRecDepth 100000

theorem set_three {w : World} {s : Nat} {y0 y1 y2 x0 x1 x2 : Value} (h0 : w.cell? ⟨s, 0, none⟩ = some y0) (h1 : w.cell? ⟨s, 1, none⟩ = some y1) (h2 : w.cell? ⟨s, 2, none⟩ = some y2) :
    (((w.setCell ⟨s, 0, none⟩ x0).setCell ⟨s, 1, none⟩ x1).setCell ⟨s, 2, none⟩ x2).cell? ⟨s, 0, none⟩ = some x0 ∧ (((w.setCell ⟨s, 0, none⟩ x0).setCell ⟨s, 1, none⟩ x1).setCell ⟨s, 2, none⟩ x2).cell? ⟨s, 1, none⟩ = some x1 ∧
      (((w.setCell ⟨s, 0, none⟩ x0).setCell ⟨s, 1, none⟩ x1).setCell ⟨s, 2, none⟩ x2).cell? ⟨s, 2, none⟩ = some x2 := by
  have hp := set_pair (x0 := x0) (x1 := x1) h0 h1
  have n0 : (⟨s, 2, none⟩ : Addr) ≠ ⟨s, 0, none⟩ := fun e => by simp at e
  have n1 : (⟨s, 2, none⟩ : Addr) ≠ ⟨s, 1, none⟩ := fun e => by simp at e
  refine ⟨?_, ?_, ?_⟩
  · rw [World.cell?_setCell_other _ _ _ _ n0]; exact hp.1
  · rw [World.cell?_setCell_other _ _ _ _ n1]; exact hp.2
  · refine World.cell?_setCell_same _ _ _ (u := y2) ?_
    rw [World.cell?_setCell_other _ _ _ _ n1.symm, World.cell?_setCell_other _ _ _ _ n0.symm]
    exact h2
/-- Cells of a block that the call made: no row that the caller has. -/
theorem grown_own {w w' : World} {row : Option Nat} (h : w.grownBy w' row) (s : Nat) (hs : w.heap.size ≤ s) (x : Value) (j : Nat) : w.grownBy (w'.setCell ⟨s, j, none⟩ x) row :=
  ⟨h.os, h.tape, h.output, by simpa using h.size, fun k hk hne => by
    have := (grown_setCell w' s j x).block k (Nat.lt_of_lt_of_le hk h.size) (fun e => by cases e; omega)
    exact this.trans (h.block k hk hne)⟩
theorem grown_alloc6 {w w' : World} {row : Option Nat} (h : w.grownBy w' row) (o : Obj) : w.grownBy (w'.alloc o) row :=
  ⟨h.os, h.tape, h.output, by rw [World.size_alloc]; exact Nat.le_succ_of_le h.size, fun k hk hne => by
    have := (World.grownBy_alloc w' o none).block k (Nat.lt_of_lt_of_le hk h.size) (by simp)
    exact this.trans (h.block k hk hne)⟩

set_option maxHeartbeats 1000000 in
theorem of_hit (b p m : Nat) (s : Nat → Bool) (w : World) (hb : 2 ≤ b) (hb' : b ≤ 16) (hp : 1 ≤ p) (hp' : p ≤ 1000000000000) (hs : Sm w b m s) (h1 : s 1 = true) (hit : s p = true) :
    Calls Try.prog 19 #[.agg #[.int .i64 (b : Int), .map (some m)], .int .i64 (p : Int)] w fun e w' => ∃ s', e = .returned (spV b p) ∧ Sm w' b m s' ∧ s' 1 = true ∧ w.grownBy w' (some m) := by
  have hml := hs.lt
  have HIT := Lib.hid hit
  obtain ⟨w1, hw1⟩ : ∃ w1, w1 = (w.alloc (.cells #[.int .i64 (b : Int), .map (some m)] 37)).alloc (.cells #[.int .i64 0, .int .i64 0, .int .i64 0] 40) := ⟨_, rfl⟩
  have HW1 := Lib.hid hw1
  have hsz1 : w1.heap.size = w.heap.size + 2 := by rw [hw1, World.size_alloc, World.size_alloc]
  have HS1 := Lib.hid (show Sm w1 b m s by rw [hw1]; exact (hs.alloc _).alloc _)
  have HG1 := Lib.hid (show w.grownBy w1 (some m) by rw [hw1]; exact grown_alloc6 (grown_alloc6 (World.grownBy.refl _ _) _) _)
  have cm : w1.cell? ⟨w.heap.size, 1, none⟩ = some (.map (some m)) := by rw [hw1]; simp [go_sem]
  have r0 : w1.cell? ⟨w.heap.size + 1, 0, none⟩ = some (.int .i64 0) := by rw [hw1]; simp [go_sem]
  have r1 : w1.cell? ⟨w.heap.size + 1, 1, none⟩ = some (.int .i64 0) := by rw [hw1]; simp [go_sem]
  have r2 : w1.cell? ⟨w.heap.size + 1, 2, none⟩ = some (.int .i64 0) := by rw [hw1]; simp [go_sem]
  have f0 : w1.frozen? ⟨w.heap.size + 1, 0, none⟩ = false := by rw [hw1]; simp [go_sem]
  have f1 : w1.frozen? ⟨w.heap.size + 1, 1, none⟩ = false := by rw [hw1]; simp [go_sem]
  have f2 : w1.frozen? ⟨w.heap.size + 1, 2, none⟩ = false := by rw [hw1]; simp [go_sem]
  have hne1 : ¬ w.heap.size + 1 = w1.heap.size := by omega
  have hne2 : ¬ w1.heap.size = w.heap.size + 1 := by omega
  have hlt1 : w.heap.size + 1 < w1.heap.size := by omega
  obtain ⟨C, hC⟩ : ∃ C : Int, C = (ct b p : Nat) := ⟨_, rfl⟩
  obtain ⟨M1, hM1⟩ : ∃ M : Int, M = ((mf b p).1 : Nat) := ⟨_, rfl⟩
  obtain ⟨M2, hM2⟩ : ∃ M : Int, M = ((mf b p).2 : Nat) := ⟨_, rfl⟩
  have HSP := Lib.hid (show spV b p = .agg #[.int .i64 C, .int .i64 M1, .int .i64 M2] by unfold spV; rw [hC, hM1, hM2])
  rw [HSP.out]
  clear hw1 hs hit hC hM1 hM2
  go_enter Try.func19, Try.ntmps19
  go_wp2_with (rw [← HW1.out]; refine wpList_lookM rfl _ _ rfl b m s p (by first | rfl | simp) rfl HS1.out hp' ?_; rw [if_pos HIT.out, HSP.out])
  obtain ⟨e0, e1, e2⟩ := set_three (x0 := .int .i64 C) (x1 := .int .i64 M1) (x2 := .int .i64 M2) r0 r1 r2
  have hlt3 : w.heap.size + 1 < (((w1.setCell ⟨w.heap.size + 1, 0, none⟩ (.int .i64 C)).setCell ⟨w.heap.size + 1, 1, none⟩ (.int .i64 M1)).setCell ⟨w.heap.size + 1, 2, none⟩ (.int .i64 M2)).heap.size := by simp; omega
  refine bodyPost_ret (ret_split rfl _ _ (w.heap.size + 1) (.int .i64 C) (.int .i64 M1) (.int .i64 M2) rfl ((World.cell?_alloc_lt _ _ _ hlt3).trans e0) ((World.cell?_alloc_lt _ _ _ hlt3).trans e1) ((World.cell?_alloc_lt _ _ _ hlt3).trans e2)) rfl ?_
  exact ⟨s, rfl, (((HS1.out.setCell _ _ (by show m ≠ w.heap.size + 1; omega)).setCell _ _ (by show m ≠ w.heap.size + 1; omega)).setCell _ _ (by show m ≠ w.heap.size + 1; omega)).alloc _, h1, grown_alloc6 (grown_own (grown_own (grown_own HG1.out _ (by omega) _ _) _ (by omega) _ _) _ (by omega) _ _) _⟩

/-- What the search keeps in memory: its own copy of the splitter, the result, what is found. -/
structure OfC (w : World) (n b m L fw fr : Nat) : Prop where
  cb : w.cell? ⟨n, 0, none⟩ = some (.int .i64 (b : Int))
  cm : w.cell? ⟨n, 1, none⟩ = some (.map (some m))
  r0 : w.cell? ⟨n + 1, 0, none⟩ = some (.int .i64 0)
  r1 : w.cell? ⟨n + 1, 1, none⟩ = some (.int .i64 0)
  r2 : w.cell? ⟨n + 1, 2, none⟩ = some (.int .i64 0)
  g0 : w.cell? ⟨n + 3, 0, none⟩ = some (.int .i64 (L : Int))
  g1 : w.cell? ⟨n + 3, 1, none⟩ = some (.int .i64 (fw : Int))
  g2 : w.cell? ⟨n + 3, 2, none⟩ = some (.int .i64 (fr : Int))
  rf : ∀ j, w.frozen? ⟨n + 1, j, none⟩ = false
  gf : ∀ j, w.frozen? ⟨n + 3, j, none⟩ = false
  sz : n + 4 ≤ w.heap.size

theorem OfC.kept {w w' : World} {n b m L fw fr : Nat} (h : OfC w n b m L fw fr) (hg : w.grownBy w' (some m)) (hm : m < n) : OfC w' n b m L fw fr := by
  have hne : ∀ i, n ≤ i → some i ≠ some m := fun i hi e => by cases e; omega
  have hsz := h.sz
  refine ⟨hg.cell h.cb (hne _ (by show n ≤ n; omega)), hg.cell h.cm (hne _ (by show n ≤ n; omega)), hg.cell h.r0 (hne _ (by show n ≤ n + 1; omega)), hg.cell h.r1 (hne _ (by show n ≤ n + 1; omega)), hg.cell h.r2 (hne _ (by show n ≤ n + 1; omega)), hg.cell h.g0 (hne _ (by show n ≤ n + 3; omega)), hg.cell h.g1 (hne _ (by show n ≤ n + 3; omega)), hg.cell h.g2 (hne _ (by show n ≤ n + 3; omega)),
    fun j => (hg.frozen_far ⟨n + 1, j, none⟩ (by show n + 1 < _; omega) (hne _ (by show n ≤ n + 1; omega))).trans (h.rf j), fun j => (hg.frozen_far ⟨n + 3, j, none⟩ (by show n + 3 < _; omega) (hne _ (by show n ≤ n + 3; omega))).trans (h.gf j), Nat.le_trans hsz hg.size⟩
theorem OfC.alloc {w : World} {n b m L fw fr : Nat} (h : OfC w n b m L fw fr) (o : Obj) (hm : m < n) : OfC (w.alloc o) n b m L fw fr := h.kept (World.grownBy_alloc w o _) hm
theorem OfC.drew {w : World} {n b m L fw fr : Nat} (h : OfC w n b m L fw fr) : OfC w.drew n b m L fw fr := ⟨h.cb, h.cm, h.r0, h.r1, h.r2, h.g0, h.g1, h.g2, h.rf, h.gf, h.sz⟩

end Go.Proofs.Ytdjemoekkjbkiaa
