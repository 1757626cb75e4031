/-
  The middle of a source: middleSource.
-/
import Derived.Test.YtnggfcopndcppaaT9
import Derived.Test.YtnggfcopndcppaaTU
import Derived.Test.YtnggfcopndcppaaTD
namespace Go.Proofs.Ytnggfcopndcppaa
open Go.RowKit
set_option linter.unusedVariables false
set_option linter.unusedSimpArgs false
set_option maxRecDepth 100000

theorem srcV_0 (b v least : Int) : srcV b 0 v least = if v = 0 then (1, []) else (0, []) := by
  unfold srcV solF
  by_cases h : v = 0
  · rw [if_pos h, if_pos h]; simp [cntH, fstH]
  · rw [if_neg h, if_neg h]
theorem srcV_1 {b v : Int} (least : Int) (hb : 2 ≤ b) (hv : 0 ≤ v) : srcV b 1 v least = if v % 2 = 0 ∧ least ≤ v / 2 ∧ v / 2 < b then (1, [v / 2]) else (0, []) := by
  unfold srcV solF
  by_cases h : 0 ≤ v ∧ v ≤ 2 * b - 2
  · rw [if_pos h]
    by_cases h2 : v % 2 = 0 ∧ least ≤ v / 2
    · rw [if_pos ⟨h2.1, h2.2, by omega⟩]; simp [cntH, fstH, h2]
    · rw [if_neg (fun h3 => h2 ⟨h3.1, h3.2.1⟩)]; simp [cntH, h2]
  · rw [if_neg h, if_neg (fun h3 => by omega)]

theorem infoSR : (Try.prog.info? 92).map (·.size) = some 2 := by kernel_rfl
theorem load_src (w : World) (s off : Nat) (x0 x1 : Value) (h0 : w.cell? ⟨s, off, none⟩ = some x0) (h1 : w.cell? ⟨s, off + 1, none⟩ = some x1) : (loadVar 92 ⟨s, off, none⟩).run Try.prog w = .ok (.agg #[x0, x1]) w :=
  loadVar_pair Try.underlying92 rfl infoSR w s off x0 x1 h0 h1
theorem ret_src {fn : Func} {p : Tmp} (h : fn.results = #[.cell p 92]) (tmps : Array Value) (w : World) (s : Nat) (x0 x1 : Value)
    (hp : tmps.getD p undef = .pointer (some ⟨s, 0, none⟩)) (h0 : w.cell? ⟨s, 0, none⟩ = some x0) (h1 : w.cell? ⟨s, 1, none⟩ = some x1) :
    (results fn tmps).run Try.prog w = .ok (.agg #[x0, x1]) w := results_cell_one h tmps w s _ hp (load_src w s 0 x0 x1 h0 h1)

theorem middle_any (b v least : Int) (W : Nat) (w : World) (hW : W < 2) (hb : 2 ≤ b) (hb' : b ≤ 17) (hv : 0 ≤ v) (hv' : v ≤ 1000000000000000000) (hl : 0 ≤ least) (hl' : least ≤ 1) :
    Calls Try.prog 108 #[.int .i64 v, .int .i64 (W : Int), .int .i64 b, .int .i64 least] w fun e w' => ∃ u, e = .returned (.agg #[.int .i64 (srcV b W v least).1, u]) ∧ Rd w' w.heap.size u (srcV b W v least).2 ∧ Below w.heap.size w w' := by
  have HAL := Lib.hid (alloc_below w (.cells #[.int .i64 0, .slice none 0 0] 92))
  have HC0 := Lib.hid (show (w.alloc (.cells #[.int .i64 0, .slice none 0 0] 92)).cell? ⟨w.heap.size, 0, none⟩ = some (.int .i64 0) by simp [go_sem])
  have HC1 := Lib.hid (show (w.alloc (.cells #[.int .i64 0, .slice none 0 0] 92)).cell? ⟨w.heap.size, 1, none⟩ = some (.slice none 0 0) by simp [go_sem])
  have HF := Lib.hid (show ∀ j, (w.alloc (.cells #[.int .i64 0, .slice none 0 0] 92)).frozen? ⟨w.heap.size, j, none⟩ = false from fun j => by simp [go_sem])
  obtain ⟨sv, hsv⟩ : ∃ sv, sv = srcV b W v least := ⟨_, rfl⟩
  have HSV := Lib.hid hsv
  rw [← hsv]
  clear hsv
  have ht2 : Int.tdiv v 2 = v / 2 := Int.tdiv_eq_ediv_of_nonneg hv
  have hm2 : Int.tmod v 2 = v % 2 := Int.tmod_eq_emod_of_nonneg hv
  obtain ⟨q, hq⟩ : ∃ q, q = v / 2 := ⟨_, rfl⟩
  have hq1 : 0 ≤ q := by omega
  have hq2 : q ≤ 1000000000000000000 := by omega
  obtain ⟨w2, hw2⟩ : ∃ w2, w2 = (w.alloc (.cells #[.int .i64 0, .slice none 0 0] 92)).alloc (.cells #[.int .i64 q] 3) := ⟨_, rfl⟩
  have HW2 := Lib.hid hw2
  have H2 := Lib.hid (show Rd w2 0 (.slice (some ⟨w.heap.size + 1, 0, none⟩) 1 1) [q] from by
    have := Rd.litB (w.alloc (.cells #[.int .i64 0, .slice none 0 0] 92)) 0 q (Nat.zero_le _)
    rw [World.size_alloc] at this
    rw [hw2]; exact this)
  have B2 := Lib.hid (show Below w.heap.size w w2 by rw [hw2]; exact (HAL.out.alloc HAL.out.size _))
  have B2' := Lib.hid (show Below (w.alloc (.cells #[.int .i64 0, .slice none 0 0] 92)).heap.size (w.alloc (.cells #[.int .i64 0, .slice none 0 0] 92)) w2 by rw [hw2]; exact alloc_below _ _)
  have hrep := repeat_any _ _ W 0 q w2 H2.out (by omega)
  have HREP := Lib.hid hrep
  clear hrep hw2
  go_enter Try.func108, Try.ntmps108
  go_wp2_with fail
  rw [← hq, ← HW2.out]
  refine HREP.out.mono ?_
  rintro e w3 ⟨u3, rfl, hr3, hb3⟩
  have B3 := Lib.hid (Below.step B2.out B2.out.size hb3)
  have KK := Lib.hid (Below.step B2'.out B2'.out.size hb3)
  have c0 := Below.keeps_cell KK.out HC0.out
  have c1 := Below.keeps_cell KK.out HC1.out
  have hlt : w.heap.size < (w.alloc (.cells #[.int .i64 0, .slice none 0 0] 92)).heap.size := by rw [World.size_alloc]; omega
  have hfz : ∀ j, w3.frozen? ⟨w.heap.size, j, none⟩ = false := fun j => by rw [(below_cells KK.out).2 _ _ hlt]; exact HF.out j
  have f0 := hfz 0
  have f1 := hfz 1
  obtain ⟨a3, d3, rfl⟩ := hr3.shape'
  rw [List.length_replicate] at hr3 ⊢
  have R3 := Lib.hid hr3
  have hgr : ∀ u q, Below w.heap.size w ((w3.setCell ⟨w.heap.size, 0, none⟩ u).setCell ⟨w.heap.size, 1, none⟩ q) := fun u q => (B3.out.setCell (Nat.le_refl _) _).setCell (Nat.le_refl _) _
  have HGR := Lib.hid hgr
  have hs2 : w.heap.size + 1 < w2.heap.size := by rw [HW2.out, World.size_alloc, World.size_alloc]; omega
  have hne : (Value.slice a3 W d3).ownBlock = none ∨ (Value.slice a3 W d3).ownBlock ≠ some w.heap.size := by
    by_cases e : (Value.slice a3 W d3).ownBlock = none
    · exact .inl e
    · exact .inr (fun h => by have := (hr3.lt _ h).1; omega)
  have HRG := Lib.hid (show ∀ u q', Rd ((w3.setCell ⟨w.heap.size, 0, none⟩ u).setCell ⟨w.heap.size, 1, none⟩ q') w.heap.size (.slice a3 W d3) (List.replicate W q) from fun u q' => ((hr3.grown (grown_setCell _ _ _ _) hne).grown (grown_setCell _ _ _ _) hne).mono B2.out.size)
  clear hr3 hb3 hfz hgr hne hs2 HAL H2 HREP HW2
  have hW01 : W = 0 ∨ W = 1 := by omega
  rcases hW01 with rfl | rfl
  · by_cases h0 : v = 0
    · obtain rfl : sv = (1, []) := by rw [HSV.out, srcV_0, if_pos h0]
      clear HSV
      subst h0
      have hsp := set_pair (x0 := .int .i64 1) (x1 := .slice a3 0 d3) c0 c1
      have HSP := Lib.hid hsp
      clear hsp
      go_wp2
      refine bodyPost_ret (ret_src rfl _ _ w.heap.size _ _ rfl HSP.out.1 HSP.out.2) rfl ?_
      exact ⟨_, rfl, HRG.out _ _, HGR.out _ _⟩
    · obtain rfl : sv = (0, []) := by rw [HSV.out, srcV_0, if_neg h0]
      clear HSV
      have hsp := set_pair (x0 := .int .i64 0) (x1 := .slice none 0 0) c0 c1
      have HSP := Lib.hid hsp
      clear hsp
      go_wp2
      refine bodyPost_ret (ret_src rfl _ _ w.heap.size _ _ rfl HSP.out.1 HSP.out.2) rfl ?_
      exact ⟨_, rfl, Rd.nil _ _, HGR.out _ _⟩
  · have HS1 := Lib.hid (show sv = if v % 2 = 0 ∧ least ≤ q ∧ q < b then (1, [q]) else (0, []) by rw [HSV.out, hq]; exact srcV_1 least hb hv)
    have hqd : v / 2 = q := hq.symm
    clear hq
    clear HSV
    by_cases h0 : v % 2 = 0
    · by_cases h1 : least ≤ q
      · by_cases h2 : q < b
        · obtain rfl : sv = (1, [q]) := by rw [HS1.out, if_pos ⟨h0, h1, h2⟩]
          clear HS1
          have hsp := set_pair (x0 := .int .i64 1) (x1 := .slice a3 1 d3) c0 c1
          have HSP := Lib.hid hsp
          clear hsp
          go_wp2
          refine bodyPost_ret (ret_src rfl _ _ w.heap.size _ _ rfl HSP.out.1 HSP.out.2) rfl ?_
          exact ⟨_, rfl, HRG.out _ _, HGR.out _ _⟩
        · obtain rfl : sv = (0, []) := by rw [HS1.out, if_neg (fun h => h2 h.2.2)]
          clear HS1
          have hsp := set_pair (x0 := .int .i64 0) (x1 := .slice none 0 0) c0 c1
          have HSP := Lib.hid hsp
          clear hsp
          go_wp2
          refine bodyPost_ret (ret_src rfl _ _ w.heap.size _ _ rfl HSP.out.1 HSP.out.2) rfl ?_
          exact ⟨_, rfl, Rd.nil _ _, HGR.out _ _⟩
      · obtain rfl : sv = (0, []) := by rw [HS1.out, if_neg (fun h => h1 h.2.1)]
        clear HS1
        have hsp := set_pair (x0 := .int .i64 0) (x1 := .slice none 0 0) c0 c1
        have HSP := Lib.hid hsp
        clear hsp
        go_wp2
        refine bodyPost_ret (ret_src rfl _ _ w.heap.size _ _ rfl HSP.out.1 HSP.out.2) rfl ?_
        exact ⟨_, rfl, Rd.nil _ _, HGR.out _ _⟩
    · obtain rfl : sv = (0, []) := by rw [HS1.out, if_neg (fun h => h0 h.1)]
      clear HS1
      have hsp := set_pair (x0 := .int .i64 0) (x1 := .slice none 0 0) c0 c1
      have HSP := Lib.hid hsp
      clear hsp
      go_wp2
      refine bodyPost_ret (ret_src rfl _ _ w.heap.size _ _ rfl HSP.out.1 HSP.out.2) rfl ?_
      exact ⟨_, rfl, Rd.nil _ _, HGR.out _ _⟩

end Go.Proofs.Ytnggfcopndcppaa
