/-
  The word behind gaps; the word behind a word.
-/
import Derived.Test.YtadjjmlneghklaaJF
import Derived.Test.YtadjjmlneghklaaJH
import Derived.Laws.EntriesVeiled
import Derived.Deep.RegionLaw
namespace Go.Proofs.Ytadjjmlneghklaa
open Go.RowKit
set_option linter.unusedVariables false
set_option linter.unusedSimpArgs false
set_option maxRecDepth 100000

theorem Ar.keep {w w' : World} {B g : Nat} {xs : List Int} (h : Ar w B g xs) (hb : Below w.heap.size w w') : Ar w' B g xs := Rg.keep h hb
theorem dw_lit {xs : List Int} (h : xs.length ≤ 8) : dw xs = #[.int .i64 (xs.getD 0 0), .int .i64 (xs.getD 1 0), .int .i64 (xs.getD 2 0), .int .i64 (xs.getD 3 0), .int .i64 (xs.getD 4 0), .int .i64 (xs.getD 5 0), .int .i64 (xs.getD 6 0), .int .i64 (xs.getD 7 0)] := by
  match xs, h with
  | [], _ => rfl
  | [_], _ => rfl
  | [_, _], _ => rfl
  | [_, _, _], _ => rfl
  | [_, _, _, _], _ => rfl
  | [_, _, _, _, _], _ => rfl
  | [_, _, _, _, _, _], _ => rfl
  | [_, _, _, _, _, _, _], _ => rfl
  | [_, _, _, _, _, _, _, _], _ => rfl
  | _ :: _ :: _ :: _ :: _ :: _ :: _ :: _ :: _ :: l, h => simp at h
theorem dw_cells {w : World} {g : Nat} {xs : List Int} (h : xs.length ≤ 8) (hg : w.heap[g]? = some (.cells (dw xs) 65 (0, 0))) (j : Nat) (hj : j < 8) : w.cell? ⟨g, j, none⟩ = some (.int .i64 (xs.getD j 0)) := by
  rw [cell_of_row w g j _ _ _ hg, dw_lit h]
  match j, hj with
  | 0, _ => rfl
  | 1, _ => rfl
  | 2, _ => rfl
  | 3, _ => rfl
  | 4, _ => rfl
  | 5, _ => rfl
  | 6, _ => rfl
  | 7, _ => rfl
  | j + 8, h => omega
theorem arr_dw (xs : List Int) (h : xs.length ≤ 8) : (Try.prog.info? 65).map (·.size) = some (dw xs).size := by
  rw [dw_size h]; kernel_rfl
theorem one_dw (xs : List Int) : (dw xs).all (·.oneCell') = true := one_arr _
theorem storeCells_dw {w : World} {g : Nat} (xs : List Int) (h : xs.length ≤ 8) (hg : w.heap[g]? = some (.cells ((List.replicate 8 (0 : Int)).map (Value.int .i64)).toArray 65 (0, 0))) :
    (storeCells ⟨g, 0, none⟩ (dw xs).toList 0).run Try.prog w = .ok () (w.setRow g (dw xs)) := by
  have := run_storeCells_from (P := Try.prog) g 65 (dw xs).toList 0 _ w hg (by simp [dw_size h]) (fun v hv => (Array.all_eq_true_iff_forall_mem.1 (one_dw xs)) v (by simpa using hv))
  simpa using this

set_option maxHeartbeats 1000000 in
theorem fromGaps_any (v : Value) (g : List Int) (gq gs W : Nat) (b : Int) (w : World) (h : Sl w v g) {B0 : Nat} (hG : GS w B0 gq gs W b) (hb : 2 ≤ b) (hb' : b ≤ 16) (hW : W ≤ 8) (hl : g.length = W / 2) (hg : ∀ x ∈ g, 0 ≤ x ∧ x ≤ b - 1) :
    Calls Try.prog 77 #[v, .pointer (some ⟨gq, 0, none⟩), .pointer (some ⟨gs, 0, none⟩)] w fun e w' => e = .returned (.agg (dw (wd b W (gv b W g)))) ∧ Below w.heap.size w w' := by
  obtain ⟨a, cap, rfl, hx⟩ := h
  have HX := Lib.hid hx
  have HL := Lib.hid hl
  have HV := Lib.hid (show ∀ k, k ≤ W / 2 → 0 ≤ gv b W (g.take k) ∧ gv b W (g.take k) ≤ 4294967296 from fun k hk => by
    have h1 := gv_bd hb hb' hW (g := g.take k) (fun x h => hg x (List.mem_of_mem_take h))
    have h2 := (ws_all hb hb' hW).2.2
    omega)
  have HGB := Lib.hid hg
  have HWS := Lib.hid (show ∀ u ∈ ws b W, 0 ≤ u ∧ u ≤ 4294967296 from fun u hu => by
    obtain ⟨i, hi, rfl⟩ := List.getElem_of_mem hu
    rw [ws_len] at hi
    rw [ws_at]
    have h1 := (ws_all hb hb' (show W - 1 - i ≤ 8 by omega)).2.2
    have h2 := Int.pow_pos (n := b) (m := i) (by omega)
    have h3 := SI_pos (ws_all hb hb' hW).1 _ (List.getElem_mem (by rw [ws_len]; exact hi))
    rw [ws_at b W i (by rw [ws_len]; exact hi)] at h3
    omega)
  obtain ⟨⟨gw, cw, cq, RW⟩, c0, c1, _, _⟩ := hG
  have RWH := Lib.hid RW
  have lq := World.block_lt_of_cell? w _ cq
  have l0 := World.block_lt_of_cell? w _ c0
  simp only at lq l0
  have HB0 := Lib.hid (alloc_below w (.cells #[.int .i64 0, .int .i64 0, .int .i64 0, .int .i64 0, .int .i64 0, .int .i64 0, .int .i64 0, .int .i64 0] 65))
  have HA := Lib.hid (Ar.zero w w.heap.size (Nat.le_refl _))
  have HWL := Lib.hid (ws_len b W)
  have RW1 := Lib.hid (RW.keep HB0.out)
  have dq := Below.keeps_cell HB0.out cq
  have d0 := Below.keeps_cell HB0.out c0
  have d1 := Below.keeps_cell HB0.out c1
  have HX1 := Lib.hid (show ∀ j (hj : j < g.length), g ≠ [] → ∃ gb off, a = some ⟨gb, off, none⟩ ∧ (w.alloc (.cells #[.int .i64 0, .int .i64 0, .int .i64 0, .int .i64 0, .int .i64 0, .int .i64 0, .int .i64 0, .int .i64 0] 65)).cell? ⟨gb, off + j, none⟩ = some (.int .i64 g[j]) from fun j hj hne => by
    rcases HX.out with h | ⟨gb, off, rfl, h1, h2⟩
    · exact absurd h hne
    · exact ⟨gb, off, rfl, Below.keeps_cell HB0.out (h2 j hj)⟩)
  clear hx hl hg RW HX RWH cq c0 c1
  rw [HL.out]
  go_enter Try.func77, Try.ntmps77
  go_wp2
  go_loop [5, 10] (fun s i => ∃ k : Nat, k ≤ W / 2 ∧ i = .int .i64 (k : Int) ∧ s = .int .i64 (gv b W (g.take k))) (fun _ i => W / 2 - (intOf i).toNat)
  case atStart => exact ⟨0, Nat.zero_le _, rfl, by unfold gv; rw [List.take_zero, dot_nil]⟩
  case round =>
    obtain ⟨k, hk, rfl, rfl⟩ := hrel
    obtain ⟨v1, v2⟩ := HV.out k hk
    obtain ⟨s, hs⟩ : ∃ s, s = gv b W (g.take k) := ⟨_, rfl⟩
    rw [← hs] at v1 v2
    by_cases hlt : k < W / 2
    · have hgl : k < g.length := by rw [HL.out]; exact hlt
      have hwl : k < (ws b W).length := by rw [HWL.out]; exact hlt
      obtain ⟨gb, off, rfl, hcell⟩ := HX1.out k hgl (fun e => by rw [e] at hgl; simp at hgl)
      have hcw := RW1.out.at.2.2.2.2.1 k hwl
      have HS := Lib.hid (show gv b W (g.take (k + 1)) = s + g[k] * (ws b W)[k] by unfold gv at hs ⊢; rw [dot_snoc g (ws b W) k hgl hwl, ← hs])
      obtain ⟨x1, x2⟩ := HGB.out g[k] (List.getElem_mem hgl)
      obtain ⟨y1, y2⟩ := HWS.out (ws b W)[k] (List.getElem_mem hwl)
      obtain ⟨z1, z2⟩ := HV.out (k + 1) (by omega)
      rw [HS.out] at z1 z2
      obtain ⟨x, hx⟩ : ∃ x, x = g[k] := ⟨_, rfl⟩
      obtain ⟨y, hy⟩ : ∃ y, y = (ws b W)[k] := ⟨_, rfl⟩
      rw [← hx] at hcell x1 x2 HS z1 z2
      rw [← hy] at hcw y1 y2 HS z1 z2
      obtain ⟨m1, m2⟩ : 0 ≤ x * y ∧ x * y ≤ 16 * 4294967296 := ⟨Int.mul_nonneg x1 y1, Int.mul_le_mul (by omega) y2 y1 (by omega)⟩
      rw [← hs]
      clear hs hx hy
      go_wp2
      go_round
      case rel => exact ⟨k + 1, by omega, by go_num, by rw [HS.out]⟩
      case measure => simp [intOf] <;> omega
    · obtain rfl : k = W / 2 := by omega
      have HE := Lib.hid (show s = gv b W g by rw [hs, List.take_of_length_le (by rw [HL.out]; exact Nat.le_refl _)])
      rw [← hs]
      clear hs
      go_wp2_with fail
      refine (word_any W s b _ hb hb' hW v1 v2).mono ?_
      rintro e w1 ⟨rfl, hb1⟩
      have HRH := Lib.hid (HA.out.keep hb1).heap
      have B1 := Lib.hid (Below.step HB0.out HB0.out.size hb1)
      have HI := Lib.hid (arr_dw (wd b W s) (by rw [wd_len]; exact hW))
      have HO := Lib.hid (one_dw (wd b W s))
      have HZ := Lib.hid (show ((List.replicate 8 (0 : Int)).map (Value.int .i64)).toArray.size = (dw (wd b W s)).size by rw [dw_size (by rw [wd_len]; exact hW)]; simp)
      clear hb1
      obtain ⟨cs, hcs⟩ : ∃ cs, cs = dw (wd b W s) := ⟨_, rfl⟩
      have HCS := Lib.hid (show Value.agg cs = Value.agg (dw (wd b W (gv b W g))) by rw [hcs, HE.out])
      rw [← hcs] at HI HO HZ
      rw [← hcs]
      clear hcs HE
      go_wp2_with (refine wpList_store_row rfl 65 (.tmp 4) (.tmp 26) rfl w.heap.size cs rfl rfl _ _ HRH.out HI.out HZ.out HO.out ?_)
      exact bodyPost_ret (v := .agg cs) (results_cell_row rfl _ _ w.heap.size _ _ _ _ rfl (setRow_heap _ _ _ _ _ _ HRH.out) arr8 rfl HI.out) rfl ⟨by rw [HCS.out], below_setRow B1.out (Nat.le_refl _) _⟩

/-- What the step of words keeps: the step from gaps, and the shape. -/
structure SS (w : World) (B g3 g1 W : Nat) (b : Int) : Prop where
  fn : ∃ gq gs, w.cell? ⟨g3, 0, none⟩ = some (.func (.func 77) #[] #[.pointer (some ⟨gq, 0, none⟩), .pointer (some ⟨gs, 0, none⟩)]) ∧ GS w B gq gs W b
  width : w.cell? ⟨g1, 0, none⟩ = some (.int .i64 (W : Int))
  base : w.cell? ⟨g1, 1, none⟩ = some (.int .i64 b)
  l3 : B ≤ g3
  l1 : B ≤ g1
theorem SS.keep {w w' : World} {B g3 g1 W : Nat} {b : Int} (h : SS w B g3 g1 W b) (hb : Below w.heap.size w w') : SS w' B g3 g1 W b := by
  obtain ⟨gq, gs, h1, h2⟩ := h.fn
  exact ⟨⟨gq, gs, Below.keeps_cell hb h1, h2.keep hb⟩, Below.keeps_cell hb h.width, Below.keeps_cell hb h.base, h.l3, h.l1⟩
theorem SS.grown {w w' : World} {B g3 g1 W : Nat} {b : Int} {row : Option Nat} (h : SS w B g3 g1 W b) (hg : w.grownBy w' row) (hr : ∀ k, row = some k → k < B) : SS w' B g3 g1 W b := by
  obtain ⟨gq, gs, h1, h2⟩ := h.fn
  have hne : ∀ k, B ≤ k → some k ≠ row := fun k hk e => by have := hr k e.symm; omega
  exact ⟨⟨gq, gs, hg.cell h1 (hne _ h.l3), h2.grown hg hr⟩, hg.cell h.width (hne _ h.l1), hg.cell h.base (hne _ h.l1), h.l3, h.l1⟩

theorem sortedStep_any (W : Nat) (b : Int) (w : World) (hb : 2 ≤ b) (hb' : b ≤ 16) (hW : W ≤ 8) (hW1 : 1 ≤ W) :
    Calls Try.prog 57 #[shp (W : Int) b] w fun e w' => ∃ g3 g1, e = .returned (.func (.func 71) #[] #[.pointer (some ⟨g3, 0, none⟩), .pointer (some ⟨g1, 0, none⟩)]) ∧ SS w' w.heap.size g3 g1 W b ∧ Below w.heap.size w w' := by
  have HB := Lib.hid (show Below w.heap.size w (w.alloc (.cells #[.int .i64 (W : Int), .int .i64 b] 45)) from (Below.refl _ _).alloc (Nat.le_refl _) _)
  have HC0 := Lib.hid (show (w.alloc (.cells #[.int .i64 (W : Int), .int .i64 b] 45)).cell? ⟨w.heap.size, 0, none⟩ = some (.int .i64 (W : Int)) by simp [go_sem])
  have HC1 := Lib.hid (show (w.alloc (.cells #[.int .i64 (W : Int), .int .i64 b] 45)).cell? ⟨w.heap.size, 1, none⟩ = some (.int .i64 b) by simp [go_sem])
  have hmf : ∀ (fn : Fn) (first cap : Array Value) (w : World), (Instr.makeFunc fn first cap).run Try.prog w = .ok (.func fn first cap) w := fun _ _ _ _ => rfl
  go_enter Try.func57, Try.ntmps57
  go_wp2_with fail
  refine (gapStep_any W b _ hb hb' hW hW1).mono ?_
  rintro e w1 ⟨gq, gs, rfl, hG, hgq, hgs, hb1⟩
  have B1 := Lib.hid (Below.step HB.out HB.out.size hb1)
  have HG := Lib.hid hG
  have HC0' := Lib.hid (Below.keeps_cell hb1 HC0.out)
  have HC1' := Lib.hid (Below.keeps_cell hb1 HC1.out)
  have HM := Lib.hid (alloc_below w1 (.cells #[.func (.func 77) #[] #[.pointer (some ⟨gq, 0, none⟩), .pointer (some ⟨gs, 0, none⟩)]] 87))
  have HF := Lib.hid (show (w1.alloc (.cells #[.func (.func 77) #[] #[.pointer (some ⟨gq, 0, none⟩), .pointer (some ⟨gs, 0, none⟩)]] 87)).cell? ⟨w1.heap.size, 0, none⟩ = some (.func (.func 77) #[] #[.pointer (some ⟨gq, 0, none⟩), .pointer (some ⟨gs, 0, none⟩)]) by simp [go_sem])
  clear hG hgq hgs hb1 HC0 HC1 HB
  go_wp2
  go_ret
  exact ⟨_, _, rfl, ⟨⟨gq, gs, HF.out, (HG.out.keep HM.out).lower (by simp)⟩, Below.keeps_cell HM.out HC0'.out, Below.keeps_cell HM.out HC1'.out, B1.out.size, Nat.le_refl _⟩, Below.step B1.out B1.out.size HM.out⟩

/-- A store of a whole array at a step of a region that draws its order. -/
theorem step_storeR {w : World} {ops : Array Oper} {o : Oper} {a : Act} {K : Act → World → Prop} {Q : Exit → Act → World → Prop} {E : Prop} (hgd : o.guard = none) (x y : Operand) (ho : o.op = .store 65 x y)
    (g : Nat) (cs : Array Value) (hx : a.eval x = .pointer (some ⟨g, 0, none⟩)) (hy : a.eval y = .agg cs) (t : TypeId) (old : Array Value) (hg : w.heap[g]? = some (.cells old t (0, 0)))
    (hi : (Try.prog.info? 65).map (·.size) = some cs.size) (hold : old.size = cs.size) (h1 : cs.all (·.oneCell') = true)
    (h : K (a.put o.dst undef) (w.setRow g cs)) :
    if Region.wanted o (yielded ops a.tmps) = true then Oper.wp Try.prog o a w K Q else E := by
  have hw : Region.wanted o (yielded ops a.tmps) = true := by simp [Region.wanted, hgd]
  rw [if_pos hw]
  exact wp_store_row 65 x y ho g cs hx hy t old hg hi hold h1 h

theorem word_step (xs : List Int) (g3 g1 : Nat) (b : Int) (w : World) {B0 : Nat} (hS : SS w B0 g3 g1 xs.length b) (hb : 2 ≤ b) (hb' : b ≤ 16) (hl : xs.length ≤ 8) (hx : ∀ x ∈ xs, 0 ≤ x ∧ x ≤ b - 1) :
    Calls Try.prog 71 #[.agg (dw xs), .pointer (some ⟨g3, 0, none⟩), .pointer (some ⟨g1, 0, none⟩)] w fun e w' => e = .returned (.agg (dw (wd b xs.length (stv b xs)))) ∧ Below w.heap.size w w' := by
  obtain ⟨⟨gq, gs, hf, hG⟩, h0, h1, _, _⟩ := hS
  have hsz := dw_size hl
  have hg3 : g3 < w.heap.size := World.block_lt_of_cell? w _ hf
  have hg1 : g1 < w.heap.size := World.block_lt_of_cell? w _ h0
  obtain ⟨w2, hw2⟩ : ∃ w2, w2 = ((w.alloc (.cells (dw xs) 65)).alloc (.cells #[.int .i64 0, .int .i64 0, .int .i64 0, .int .i64 0, .int .i64 0, .int .i64 0, .int .i64 0, .int .i64 0] 65)) := ⟨_, rfl⟩
  have HB2 := Lib.hid (show Below w.heap.size w w2 by rw [hw2]; exact (alloc_below w _).alloc (by simp) _)
  have HF2 := Lib.hid (Below.keeps_cell HB2.out hf)
  have H02 := Lib.hid (Below.keeps_cell HB2.out h0)
  have H12 := Lib.hid (Below.keeps_cell HB2.out h1)
  have HG2 := Lib.hid (hG.keep HB2.out)
  have HH2 := Lib.hid (show w2.heap[w.heap.size]? = some (.cells (dw xs) 65 (0, 0)) by rw [hw2]; exact heap_alloc2_old _ _ _)
  have HA2 := Lib.hid (show Ar w2 w.heap.size (w.heap.size + 1) (List.replicate 8 0) by
    rw [hw2]
    have := Ar.zero (w.alloc (.cells (dw xs) 65)) w.heap.size (by simp)
    rwa [World.size_alloc] at this)
  have HGP := Lib.hid (fun w' => gaps_any xs b w' hl hb' hx)
  have HCL := Lib.hid (dw_cells hl HH2.out)
  rw [dw_lit hl] at HGP
  obtain ⟨d0, hd0⟩ : ∃ d, d = xs.getD 0 0 := ⟨_, rfl⟩
  obtain ⟨d1, hd1⟩ : ∃ d, d = xs.getD 1 0 := ⟨_, rfl⟩
  obtain ⟨d2, hd2⟩ : ∃ d, d = xs.getD 2 0 := ⟨_, rfl⟩
  obtain ⟨d3, hd3⟩ : ∃ d, d = xs.getD 3 0 := ⟨_, rfl⟩
  obtain ⟨d4, hd4⟩ : ∃ d, d = xs.getD 4 0 := ⟨_, rfl⟩
  obtain ⟨d5, hd5⟩ : ∃ d, d = xs.getD 5 0 := ⟨_, rfl⟩
  obtain ⟨d6, hd6⟩ : ∃ d, d = xs.getD 6 0 := ⟨_, rfl⟩
  obtain ⟨d7, hd7⟩ : ∃ d, d = xs.getD 7 0 := ⟨_, rfl⟩
  rw [← hd0, ← hd1, ← hd2, ← hd3, ← hd4, ← hd5, ← hd6, ← hd7] at HGP
  have k0 : w2.drew.cell? ⟨w.heap.size, 0, none⟩ = some (.int .i64 d0) := by rw [hd0]; exact HCL.out 0 (by omega)
  have k1 : w2.drew.cell? ⟨w.heap.size, 1, none⟩ = some (.int .i64 d1) := by rw [hd1]; exact HCL.out 1 (by omega)
  have k2 : w2.drew.cell? ⟨w.heap.size, 2, none⟩ = some (.int .i64 d2) := by rw [hd2]; exact HCL.out 2 (by omega)
  have k3 : w2.drew.cell? ⟨w.heap.size, 3, none⟩ = some (.int .i64 d3) := by rw [hd3]; exact HCL.out 3 (by omega)
  have k4 : w2.drew.cell? ⟨w.heap.size, 4, none⟩ = some (.int .i64 d4) := by rw [hd4]; exact HCL.out 4 (by omega)
  have k5 : w2.drew.cell? ⟨w.heap.size, 5, none⟩ = some (.int .i64 d5) := by rw [hd5]; exact HCL.out 5 (by omega)
  have k6 : w2.drew.cell? ⟨w.heap.size, 6, none⟩ = some (.int .i64 d6) := by rw [hd6]; exact HCL.out 6 (by omega)
  have k7 : w2.drew.cell? ⟨w.heap.size, 7, none⟩ = some (.int .i64 d7) := by rw [hd7]; exact HCL.out 7 (by omega)
  clear hf h0 h1 hG hd0 hd1 hd2 hd3 hd4 hd5 hd6 hd7 HCL
  have hlw := HA2.out.at.2.2.1
  have HSt := Lib.hid (show stv b xs = gv b xs.length (gp xs) from rfl)
  obtain ⟨gg, hgg⟩ : ∃ gg, gg = gp xs := ⟨_, rfl⟩
  have HGL := Lib.hid (show gg.length = xs.length / 2 by rw [hgg, gp_len])
  have HGV := Lib.hid (show ∀ x ∈ gg, 0 ≤ x ∧ x ≤ b - 1 by rw [hgg]; exact gp_all hx)
  rw [← hgg] at HSt HGP
  clear hgg
  go_enter Try.func71, Try.ntmps71
  go_wp2
  rw [← hw2]
  clear hw2
  have e1 : w2.drew.cell? ⟨g3, 0, none⟩ = some (.func (.func 77) #[] #[.pointer (some ⟨gq, 0, none⟩), .pointer (some ⟨gs, 0, none⟩)]) := HF2.out
  have e2 : w2.drew.cell? ⟨g1, 0, none⟩ = some (.int .i64 (xs.length : Int)) := H02.out
  have e3 : w2.drew.cell? ⟨g1, 1, none⟩ = some (.int .i64 b) := H12.out
  have HGd := Lib.hid (show GS w2.drew B0 gq gs xs.length b from ⟨HG2.out.worth, HG2.out.width, HG2.out.base, HG2.out.lq, HG2.out.ls⟩)
  have HAd := Lib.hid (show Ar w2.drew w.heap.size (w.heap.size + 1) (List.replicate 8 0) from HA2.out)
  have HBd := Lib.hid (show Below w.heap.size w w2.drew from HB2.out.drew)
  have hlwd : w.heap.size + 1 < w2.drew.heap.size := hlw
  clear HG2 HA2 HB2 hlw HF2 H02 H12 HH2
  have hszZ : (dw (wd b xs.length (gv b xs.length gg))).size = 8 := dw_size (by rw [wd_len]; exact hl)
  have hst : ∀ (w' : World), w'.heap[w.heap.size + 1]? = some (.cells ((List.replicate 8 (0 : Int)).map (Value.int .i64)).toArray 65 (0, 0)) → (storeCells ⟨w.heap.size + 1, 0, none⟩ (dw (wd b xs.length (gv b xs.length gg))).toList 0).run Try.prog w' = .ok () (w'.setRow (w.heap.size + 1) (dw (wd b xs.length (gv b xs.length gg)))) := fun w' h => storeCells_dw _ (by rw [wd_len]; exact hl) h
  go_region_held3 (fun w' => w'.cell? ⟨g3, 0, none⟩ = some (.func (.func 77) #[] #[.pointer (some ⟨gq, 0, none⟩), .pointer (some ⟨gs, 0, none⟩)]) ∧ w'.cell? ⟨g1, 0, none⟩ = some (.int .i64 (xs.length : Int)) ∧ w'.cell? ⟨g1, 1, none⟩ = some (.int .i64 b) ∧ w'.cell? ⟨w.heap.size, 0, none⟩ = some (.int .i64 d0) ∧ w'.cell? ⟨w.heap.size, 1, none⟩ = some (.int .i64 d1) ∧ w'.cell? ⟨w.heap.size, 2, none⟩ = some (.int .i64 d2) ∧ w'.cell? ⟨w.heap.size, 3, none⟩ = some (.int .i64 d3) ∧ w'.cell? ⟨w.heap.size, 4, none⟩ = some (.int .i64 d4) ∧ w'.cell? ⟨w.heap.size, 5, none⟩ = some (.int .i64 d5) ∧ w'.cell? ⟨w.heap.size, 6, none⟩ = some (.int .i64 d6) ∧ w'.cell? ⟨w.heap.size, 7, none⟩ = some (.int .i64 d7)) (first | exact ⟨e1, e2, e3, k0, k1, k2, k3, k4, k5, k6, k7⟩ | exact ⟨f1, f2, f3, m0, m1, m2, m3, m4, m5, m6, m7⟩ | exact ⟨q1, q2, q3, n0, n1, n2, n3, n4, n5, n6, n7⟩ | exact ⟨(cell_setRow_other _ _ _ _ (by simp <;> omega)).trans q1, (cell_setRow_other _ _ _ _ (by simp <;> omega)).trans q2, (cell_setRow_other _ _ _ _ (by simp <;> omega)).trans q3, (cell_setRow_other _ _ _ _ (by simp <;> omega)).trans n0, (cell_setRow_other _ _ _ _ (by simp <;> omega)).trans n1, (cell_setRow_other _ _ _ _ (by simp <;> omega)).trans n2, (cell_setRow_other _ _ _ _ (by simp <;> omega)).trans n3, (cell_setRow_other _ _ _ _ (by simp <;> omega)).trans n4, (cell_setRow_other _ _ _ _ (by simp <;> omega)).trans n5, (cell_setRow_other _ _ _ _ (by simp <;> omega)).trans n6, (cell_setRow_other _ _ _ _ (by simp <;> omega)).trans n7⟩) (first
    | (go_at_call 68; refine (HGP.out _).mono ?_; rintro e w3 ⟨u, rfl, hr, hb3⟩; have R3 := Lib.hid hr; have B3 := Lib.hid hb3; have f1 := Below.keeps_cell hb3 e1; have f2 := Below.keeps_cell hb3 e2; have f3 := Below.keeps_cell hb3 e3; have m0 := Below.keeps_cell hb3 k0; have m1 := Below.keeps_cell hb3 k1; have m2 := Below.keeps_cell hb3 k2; have m3 := Below.keeps_cell hb3 k3; have m4 := Below.keeps_cell hb3 k4; have m5 := Below.keeps_cell hb3 k5; have m6 := Below.keeps_cell hb3 k6; have m7 := Below.keeps_cell hb3 k7; clear hr hb3)
    | (go_at_call 77; refine (fromGaps_any u gg gq gs xs.length b _ R3.out.sl (HGd.out.keep B3.out) hb hb' hl HGL.out HGV.out).mono ?_; rintro e w4 ⟨rfl, hb4⟩; have B4 := Lib.hid (Below.step B3.out B3.out.size hb4); have q1 := Below.keeps_cell hb4 f1; have q2 := Below.keeps_cell hb4 f2; have q3 := Below.keeps_cell hb4 f3; have hh4 := (HAd.out.keep B4.out).heap; have n0 := Below.keeps_cell hb4 m0; have n1 := Below.keeps_cell hb4 m1; have n2 := Below.keeps_cell hb4 m2; have n3 := Below.keeps_cell hb4 m3; have n4 := Below.keeps_cell hb4 m4; have n5 := Below.keeps_cell hb4 m5; have n6 := Below.keeps_cell hb4 m6; have n7 := Below.keeps_cell hb4 m7; clear hb4))
  go_wp2
  exact bodyPost_ret (v := .agg (dw (wd b xs.length (gv b xs.length gg)))) (results_cell_row rfl _ _ (w.heap.size + 1) _ _ _ _ rfl (setRow_heap _ _ _ _ _ _ hh4) arr8 rfl (arr_dw _ (by rw [wd_len]; exact hl))) rfl ⟨by rw [HSt.out], below_setRow (Below.step HBd.out HBd.out.size B4.out) (by omega) _⟩

end Go.Proofs.Ytadjjmlneghklaa
