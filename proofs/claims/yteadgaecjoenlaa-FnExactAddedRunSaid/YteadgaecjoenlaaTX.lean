/-
  Runs as lists: AddedRun.
-/
import Derived.Test.YteadgaecjoenlaaTW
namespace Go.Proofs.Yteadgaecjoenlaa
open Go.RowKit
set_option linter.unusedVariables false
set_option linter.unusedSimpArgs false
set_option maxRecDepth 100000

theorem Rg.litN (e : TypeId) (w : World) (B g : Nat) (u : Value) (hg : w.heap.size = g) (hB : B ≤ w.heap.size) : Rg e (w.alloc (.cells #[u] e)) B (.slice (some ⟨g, 0, none⟩) 1 1) [u] := hg ▸ Rg.lit e w B u hB

theorem Lf.cells {w : World} {B D : Nat} {v : Value} {b : Int} {vs : List Value} {ls : List (List Int)} (h : Lf w B D v b vs ls) (i : Nat) (u : Value) (hu : vs[i]? = some u) : ∃ g cap, v = .slice (some ⟨g, 0, none⟩) vs.length cap ∧ w.cell? ⟨g, i * 2, none⟩ = some u ∧ w.cell? ⟨g, i * 2 + 1, none⟩ = some (.int .i64 b) := by
  have hr := h.row
  have hi := (List.getElem?_eq_some_iff.1 hu).1
  have hf := flatL_at b vs i u hu
  rcases hr.2 with ⟨_, h0⟩ | ⟨g, cap, cur, rfl, hg, hh, hn, hm, hc, ht⟩
  · omega
  · refine ⟨g, cap, rfl, ?_, ?_⟩
    · have hlt : i * 2 < (flatL b vs).length := by rw [flatL_len]; omega
      have := World.ownsRow.cellAt (w := w) (base := B) (e := 49) (size := 2) (n := vs.length) (xs := flatL b vs) (cap := cap) hr (i * 2) (by omega)
      rw [this]; exact hf.1
    · have hlt : i * 2 + 1 < (flatL b vs).length := by rw [flatL_len]; omega
      have := World.ownsRow.cellAt (w := w) (base := B) (e := 49) (size := 2) (n := vs.length) (xs := flatL b vs) (cap := cap) hr (i * 2 + 1) (by omega)
      rw [this]; exact hf.2

theorem LLi.take_snoc {w w' : World} {B k : Nat} {v v' u : Value} {vs : List Value} {ls : List (List Int)} {l : List Int} {o : Obj} (h : LLi w B v (vs.take k) (ls.take k)) (hk : vs[k]? = some u) (hl : ls[k]? = some l) (hu : Rd w B u l) (ha : ∀ (i : Nat) (z : Value), (vs.take k)[i]? = some z → z.ownBlock = none ∨ z.ownBlock ≠ u.ownBlock)
    (hr : Rg 22 w' B v' (vs.take k ++ [u])) (hg : (w.alloc o).grownBy w' v.ownBlock) : LLi w' B v' (vs.take (k + 1)) (ls.take (k + 1)) := by
  have h1 := h.snoc hu ha hr hg
  rwa [show vs.take k ++ [u] = vs.take (k + 1) by rw [List.take_add_one, hk]; rfl, show ls.take k ++ [l] = ls.take (k + 1) by rw [List.take_add_one, hl]; rfl] at h1

theorem runLists_any (g c : Nat) (cur : List Int) (b : Int) (al : Option Addr) (cl B D : Nat) (vs : List Value) (ls : List (List Int)) (w : World) (hlf : Lf w B D (.slice al ls.length cl) b vs ls) (hrd : Rd w D (.slice (some ⟨g, 0, none⟩) cur.length c) cur)
    (hfar : ∀ (i : Nat) (z : Value), vs[i]? = some z → z.ownBlock = none ∨ z.ownBlock ≠ some g) (hD : D ≤ w.heap.size) (hn : ls.length ≤ 100) :
    Calls Try.prog 63 #[.agg #[.slice (some ⟨g, 0, none⟩) cur.length c, .int .i64 b, .slice al ls.length cl]] w fun e w' => ∃ u us, e = .returned u ∧ LLi w' D u us (ls ++ [cur]) ∧ Below w.heap.size w w' := by
  have LF := Lib.hid hlf
  have RC := Lib.hid hrd
  have FAR := Lib.hid hfar
  have HLN := Lib.hid hlf.len
  clear hlf hrd hfar
  obtain ⟨w1, hw1⟩ : ∃ w1, w1 = w.alloc (.cells #[.slice (some ⟨g, 0, none⟩) cur.length c, .int .i64 b, .slice al ls.length cl] 62) := ⟨_, rfl⟩
  have HAL := Lib.hid (show Below w.heap.size w w1 by rw [hw1]; exact alloc_below w _)
  have HC0 := Lib.hid (show w1.cell? ⟨w.heap.size, 0, none⟩ = some (.slice (some ⟨g, 0, none⟩) cur.length c) by rw [hw1]; simp [go_sem])
  have HLT1 := Lib.hid (show w1.heap.size = w.heap.size + 1 by rw [hw1]; simp)
  go_enter Try.func63, Try.ntmps63
  go_wp2
  rw [← hw1]
  clear hw1
  go_loopw [3, 9] (fun o i wr => ∃ k : Nat, k ≤ ls.length ∧ i = .int .i64 (k : Int) ∧ LLi wr D o (vs.take k) (ls.take k) ∧ Rg 22 wr w1.heap.size o (vs.take k) ∧ Below w1.heap.size w1 wr) (fun _ i _ => ls.length - (intOf i).toNat)
  case atStart => exact ⟨0, Nat.zero_le _, rfl, LLi.nil _ _, Rg.nil _ _ _, Below.refl _ _⟩
  case round =>
    obtain ⟨k, hk, rfl, hll, hrow, hb⟩ := hrel
    have ROW := Lib.hid hrow
    have HLL := Lib.hid hll
    have HB := Lib.hid hb
    have HBW := Lib.hid (Below.step HAL.out HAL.out.size hb)
    clear hll hb hrow
    by_cases hlt : k < ls.length
    · obtain ⟨z, hz⟩ : ∃ z, vs[k]? = some z := ⟨vs[k]'(by rw [HLN.out]; exact hlt), by simp⟩
      have LFr := (LF.out.keep HAL.out).keep HB.out
      obtain ⟨l, hl, hrz⟩ := LFr.rd hz
      obtain ⟨gl, capl, hv, hcell0, hcell1⟩ := LFr.cells k z hz
      rw [HLN.out] at hv
      simp only [Value.slice.injEq, true_and] at hv
      obtain ⟨rfl, rfl⟩ := hv
      obtain ⟨az, cz, hzv⟩ := hrz.sl.len
      have HZ := Lib.hid hz
      have HL := Lib.hid hl
      rw [hzv] at hcell0
      rw [hzv] at hrz HZ
      have RZ := Lib.hid hrz
      have HAP := Lib.hid (show ∀ (i : Nat) (y : Value), (vs.take k)[i]? = some y → y.ownBlock = none ∨ y.ownBlock ≠ (Value.slice az l.length cz).ownBlock from fun i y hy => by
        have hi := (List.getElem?_eq_some_iff.1 hy).1
        rw [List.length_take] at hi
        rw [List.getElem?_take, if_pos (by omega)] at hy
        exact LF.out.apart i k y _ (by omega) hy HZ.out)
      have HVL := Lib.hid (show (vs.take k).length ≤ 1000 by rw [List.length_take]; omega)
      have hsz := HB.out.size
      have KA := Lib.hid (alloc_below wr (.cells #[.slice az l.length cz, .int .i64 b] 49))
      have hDw : D ≤ wr.heap.size := Nat.le_trans hD HBW.out.size
      clear hz hl hrz LFr hzv
      have HK1 := Lib.hid (Nat.le_trans hsz KA.out.size)
      have HK2 := Lib.hid (show w1.heap.size ≤ ((wr.alloc (.cells #[.slice az l.length cz, .int .i64 b] 49)).alloc (.cells #[.slice az l.length cz] 22)).heap.size from Nat.le_trans HK1.out (by simp))
      have HDW1 := Lib.hid (show D ≤ w1.heap.size from Nat.le_trans hD HAL.out.size)
      have TKS := Lib.hid (show vs.take k ++ [Value.slice az l.length cz] = vs.take (k + 1) by rw [List.take_add_one, HZ.out]; rfl)
      go_wp2_with (at_builtin; go_loud (refine wpList_appG rfl _ _ 34 22 (.slice none 0 0) 24 Try.underlying34 infoL (by omega) rfl rfl w1.heap.size w1.heap.size _ _ (vs.take k) _ rfl rfl ((ROW.out.keep KA.out).alloc _) (Rg.litN _ _ _ _ _ (by simp) HK1.out) (by simp [Value.oneCell']) (by rw [List.length_singleton]; have := HVL.out; omega) HK2.out ?_; intro v4 w4 hr4 hg4 hb4; have L4 := Lib.hid ((HLL.out.keep KA.out).take_snoc HZ.out HL.out (RZ.out.keep KA.out) HAP.out (hr4.mono HDW1.out) hg4); have ROW4 := Lib.hid (TKS.out ▸ hr4); have B4 := Lib.hid (((Below.step HB.out HB.out.size KA.out).alloc HK1.out _).trans hb4); clear hr4 hg4 hb4))
      go_roundw
      case rel => exact ⟨k + 1, by omega, by go_num, L4.out, ROW4.out, B4.out⟩
      case measure => simp [intOf]; omega
    · obtain rfl : k = ls.length := by omega
      have hvt : vs.take ls.length = vs := List.take_of_length_le (by rw [HLN.out]; exact Nat.le_refl _)
      have hlt' : ls.take ls.length = ls := List.take_of_length_le (Nat.le_refl _)
      have hl0 := HLL.out
      have hr0 := ROW.out
      rw [hvt, hlt'] at hl0
      rw [hvt] at hr0
      have HLL := Lib.hid hl0
      have ROW := Lib.hid hr0
      have RCr := Lib.hid ((RC.out.keep HAL.out).keep HB.out)
      have hc0 := Below.keeps_cell HB.out HC0.out
      have hc1 : wr.cell? ⟨w.heap.size, 0, none⟩ = some (.slice (some ⟨g, 0, none⟩) cur.length c) := hc0
      have HVL := Lib.hid (show vs.length ≤ 1000 by rw [HLN.out]; omega)
      have HDW1 := Lib.hid (show D ≤ w1.heap.size from Nat.le_trans hD HAL.out.size)
      have hsz := Lib.hid HB.out.size
      have HK2 := Lib.hid (show w1.heap.size ≤ (wr.alloc (.cells #[.slice (some ⟨g, 0, none⟩) cur.length c] 22)).heap.size from Nat.le_trans hsz.out (by simp))
      clear hvt hlt' hl0 hr0 hc0
      go_wp2_with (at_builtin; go_loud (refine wpList_appG rfl _ _ 34 22 (.slice none 0 0) 24 Try.underlying34 infoL (by omega) rfl rfl w1.heap.size w1.heap.size _ _ vs _ rfl rfl (ROW.out.alloc _) (Rg.lit _ _ _ _ hsz.out) (by simp [Value.oneCell']) (by rw [List.length_singleton]; have := HVL.out; omega) HK2.out ?_; intro v4 w4 hr4 hg4 hb4; have L4 := Lib.hid (HLL.out.snoc RCr.out FAR.out (hr4.mono HDW1.out) hg4); have B4 := Lib.hid ((HB.out.alloc hsz.out _).trans hb4); clear hr4 hg4 hb4))
      go_ret
      exact ⟨_, _, rfl, L4.out, Below.step HAL.out HAL.out.size B4.out⟩

end Go.Proofs.Yteadgaecjoenlaa
