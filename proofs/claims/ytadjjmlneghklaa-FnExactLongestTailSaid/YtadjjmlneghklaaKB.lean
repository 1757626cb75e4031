/-
  The lists of words in arrays.
-/
import Derived.Test.YtadjjmlneghklaaJZ
namespace Go.Proofs.Ytadjjmlneghklaa
open Go.RowKit
set_option linter.unusedVariables false
set_option linter.unusedSimpArgs false
set_option maxRecDepth 100000

theorem LLi.set {w w' : World} {B i : Nat} {v u : Value} {vs : List Value} {ls : List (List Int)} {l : List Int} (h : LLi w B v vs ls) (hu : Rd w B u l) (ha : ∀ (i : Nat) (z : Value), vs[i]? = some z → z.ownBlock = none ∨ z.ownBlock ≠ u.ownBlock)
    (hg : w.grownBy w' v.ownBlock) (hr : Rg 33 w' B v (vs.set i u)) : LLi w' B v (vs.set i u) (ls.set i l) := by
  refine ⟨hr, by simp [h.len], fun j z m hz hm => ?_, fun j k z y hjk hz hy => ?_⟩
  · rw [List.getElem?_set] at hz hm
    by_cases e : i = j
    · subst e
      rw [if_pos rfl] at hz hm
      by_cases hl : i < vs.length
      · rw [if_pos hl] at hz
        rw [if_pos (by rw [← h.len]; exact hl)] at hm
        cases hz; cases hm
        exact hu.grown hg (rd_not_row hu h.row)
      · rw [if_neg hl] at hz; cases hz
    · rw [if_neg e] at hz hm
      have := h.at' j z m hz hm
      exact this.grown hg (rd_not_row this h.row)
  · rw [List.getElem?_set] at hz hy
    by_cases e : i = j
    · subst e
      rw [if_pos rfl] at hz
      rw [if_neg (by omega)] at hy
      by_cases hl : i < vs.length
      · rw [if_pos hl] at hz
        cases hz
        exact apart_sym2 (ha k y hy)
      · rw [if_neg hl] at hz; cases hz
    · rw [if_neg e] at hz
      by_cases e2 : i = k
      · subst e2
        rw [if_pos rfl] at hy
        by_cases hl : i < vs.length
        · rw [if_pos hl] at hy
          cases hy
          exact ha j z hz
        · rw [if_neg hl] at hy; cases hy
      · rw [if_neg e2] at hy
        exact h.apart j k z y hjk hz hy

theorem LLi.nils {w : World} {B n : Nat} {v : Value} (h : Rg 33 w B v (List.replicate n (.slice none 0 0))) : LLi w B v (List.replicate n (.slice none 0 0)) (List.replicate n []) := by
  refine ⟨h, by simp, fun j z m hz hm => ?_, fun j k z y hjk hz hy => ?_⟩
  · have h1 := (List.mem_replicate.1 (List.mem_of_getElem? hz)).2
    have h2 := (List.mem_replicate.1 (List.mem_of_getElem? hm)).2
    subst h1; subst h2
    exact Rd.nil _ _
  · have h1 := (List.mem_replicate.1 (List.mem_of_getElem? hz)).2
    subst h1
    exact .inl rfl

theorem rls_set (F : Nat → List Int) (n k : Nat) (h : k < n) : (rls F k ++ List.replicate (n - k) []).set k (F k) = rls F (k + 1) ++ List.replicate (n - (k + 1)) [] := by
  rw [List.set_append_right _ _ (by rw [rls_len]; exact Nat.le_refl _), rls_len, Nat.sub_self, show n - k = (n - (k + 1)) + 1 by omega, List.replicate_succ, List.set_cons_zero, rls_succ, List.append_assoc]
  rfl

set_option maxHeartbeats 1000000 in
theorem lists_any (v : Value) (n V : Nat) (F : Nat → List Int) (b : Int) (w : World) (h : SrcW w v n F) (hF : ∀ j, (F j).length = V) (hV : V ≤ 8) (hn : n ≤ 1000000) :
    Calls Try.prog 53 #[shp (V : Int) b, v] w fun e w' => ∃ u vs, e = .returned u ∧ LLi w' w.heap.size u vs (rls F n) ∧ Below w.heap.size w w' := by
  have H := Lib.hid h
  have HFL := Lib.hid hF
  have HF8 := Lib.hid (fun j => show (F j).length ≤ 8 by rw [hF]; exact hV)
  have HCD := Lib.hid (fun (k : Nat) => dw_lit (HF8.out k))
  obtain ⟨a, cap, rfl⟩ : ∃ a cap, v = .slice a n cap := by
    rcases h with ⟨rfl, rfl⟩ | ⟨g, off, cap, rfl, _⟩
    · exact ⟨_, _, rfl⟩
    · exact ⟨_, _, rfl⟩
  obtain ⟨W1, hW1⟩ : ∃ W1, W1 = w.alloc (.cells #[.int .i64 (V : Int), .int .i64 b] 45) := ⟨_, rfl⟩
  have HB := Lib.hid (show Below w.heap.size w W1 by rw [hW1]; exact alloc_below w _)
  have HZ1 := Lib.hid (show W1.heap.size = w.heap.size + 1 by rw [hW1]; simp)
  have HC0 := Lib.hid (show W1.cell? ⟨w.heap.size, 0, none⟩ = some (.int .i64 (V : Int)) by rw [hW1]; simp [go_sem])
  have HC1 := Lib.hid (show W1.cell? ⟨w.heap.size, 1, none⟩ = some (.int .i64 b) by rw [hW1]; simp [go_sem])
  clear h hF
  go_enter Try.func53, Try.ntmps53
  go_wp2_with (first
    | (refine wpList_mkG rfl (.tmp 9) (.tmp 9) 28 33 (.slice none 0 0) 24 Try.underlying28 infoL (by omega) rfl rfl .i64 .i64 (n : Int) (n : Int) n rfl rfl rfl rfl (by omega) ?_; intro w2 hr2 hg2 hb2; have N2 := Lib.hid (LLi.nils hr2); have B2 := Lib.hid hb2; clear hr2 hg2 hb2))
  rw [← hW1] at N2 B2
  clear hW1
  rw [HZ1.out] at N2 B2
  have BW2 := Lib.hid (Below.step HB.out HB.out.size (by rw [HZ1.out]; exact B2.out))
  have e0 := (show w2.cell? ⟨w.heap.size, 0, none⟩ = some (.int .i64 (V : Int)) from Below.keeps_cell (by rw [HZ1.out]; exact B2.out) HC0.out)
  have e1 := (show w2.cell? ⟨w.heap.size, 1, none⟩ = some (.int .i64 b) from Below.keeps_cell (by rw [HZ1.out]; exact B2.out) HC1.out)
  have E0 := Lib.hid e0
  have E1 := Lib.hid e1
  clear e0 e1 HC0 HC1 HB B2 HZ1
  go_loopw [13] (fun i wr => ∃ (k : Nat) (vs : List Value), k ≤ n ∧ i = .int .i64 (k : Int) ∧ vs.length = n ∧ LLi wr (w.heap.size + 1) (.slice (some ⟨w.heap.size + 1, 0, none⟩) n n) vs (rls F k ++ List.replicate (n - k) []) ∧ Below w.heap.size w wr ∧
    wr.cell? ⟨w.heap.size, 0, none⟩ = some (.int .i64 (V : Int)) ∧ wr.cell? ⟨w.heap.size, 1, none⟩ = some (.int .i64 b)) (fun i _ => n - (intOf i).toNat)
  case atStart => exact ⟨0, _, Nat.zero_le _, rfl, by simp, N2.out, BW2.out, E0.out, E1.out⟩
  case round =>
    obtain ⟨k, vs, hk, rfl, hvl, hv, hb, c0, c1⟩ := hrel
    have hs := H.out.keep hb
    have HV := Lib.hid hv
    have HS := Lib.hid hs
    have B3 := Lib.hid hb
    have HVL := Lib.hid hvl
    clear hv hs hb hvl
    by_cases hlt : k < n
    · obtain ⟨g, off, cap', hu, hwc⟩ : ∃ g off cap', Value.slice a n cap = .slice (some ⟨g, off, none⟩) n cap' ∧ WC wr g off n F := by
        rcases HS.out with ⟨_, h0⟩ | h1
        · omega
        · exact h1
      simp only [Value.slice.injEq, true_and] at hu
      obtain ⟨rfl, rfl⟩ := hu
      have k00 : wr.cell? ⟨g, off + k * 8, none⟩ = some (.int .i64 ((F k).getD 0 0)) := hwc k hlt 0 (by omega)
      have k10 : wr.cell? ⟨g, off + k * 8 + 1, none⟩ = some (.int .i64 ((F k).getD 1 0)) := hwc k hlt 1 (by omega)
      have k20 : wr.cell? ⟨g, off + k * 8 + 2, none⟩ = some (.int .i64 ((F k).getD 2 0)) := hwc k hlt 2 (by omega)
      have k30 : wr.cell? ⟨g, off + k * 8 + 3, none⟩ = some (.int .i64 ((F k).getD 3 0)) := hwc k hlt 3 (by omega)
      have k40 : wr.cell? ⟨g, off + k * 8 + 4, none⟩ = some (.int .i64 ((F k).getD 4 0)) := hwc k hlt 4 (by omega)
      have k50 : wr.cell? ⟨g, off + k * 8 + 5, none⟩ = some (.int .i64 ((F k).getD 5 0)) := hwc k hlt 5 (by omega)
      have k60 : wr.cell? ⟨g, off + k * 8 + 6, none⟩ = some (.int .i64 ((F k).getD 6 0)) := hwc k hlt 6 (by omega)
      have k70 : wr.cell? ⟨g, off + k * 8 + 7, none⟩ = some (.int .i64 ((F k).getD 7 0)) := hwc k hlt 7 (by omega)
      have HLA := Lib.hid (fun (w' : World) => list_any (F k) b w' (HF8.out k))
      rw [HFL.out k, HCD.out k] at HLA
      obtain ⟨d0, hd0⟩ : ∃ d, d = (F k).getD 0 0 := ⟨_, rfl⟩
      obtain ⟨d1, hd1⟩ : ∃ d, d = (F k).getD 1 0 := ⟨_, rfl⟩
      obtain ⟨d2, hd2⟩ : ∃ d, d = (F k).getD 2 0 := ⟨_, rfl⟩
      obtain ⟨d3, hd3⟩ : ∃ d, d = (F k).getD 3 0 := ⟨_, rfl⟩
      obtain ⟨d4, hd4⟩ : ∃ d, d = (F k).getD 4 0 := ⟨_, rfl⟩
      obtain ⟨d5, hd5⟩ : ∃ d, d = (F k).getD 5 0 := ⟨_, rfl⟩
      obtain ⟨d6, hd6⟩ : ∃ d, d = (F k).getD 6 0 := ⟨_, rfl⟩
      obtain ⟨d7, hd7⟩ : ∃ d, d = (F k).getD 7 0 := ⟨_, rfl⟩
      rw [← hd0, ← hd1, ← hd2, ← hd3, ← hd4, ← hd5, ← hd6, ← hd7] at HLA
      rw [← hd0] at k00
      rw [← hd1] at k10
      rw [← hd2] at k20
      rw [← hd3] at k30
      rw [← hd4] at k40
      rw [← hd5] at k50
      rw [← hd6] at k60
      rw [← hd7] at k70
      clear hd0 hd1 hd2 hd3 hd4 hd5 hd6 hd7 hwc
      have HB3 := Lib.hid (show Below wr.heap.size wr (wr.alloc (.cells #[.int .i64 d0, .int .i64 d1, .int .i64 d2, .int .i64 d3, .int .i64 d4, .int .i64 d5, .int .i64 d6, .int .i64 d7] 65)) from alloc_below wr _)
      have HROW := Lib.hid (show (wr.alloc (.cells #[.int .i64 d0, .int .i64 d1, .int .i64 d2, .int .i64 d3, .int .i64 d4, .int .i64 d5, .int .i64 d6, .int .i64 d7] 65)).heap[wr.heap.size]? = some (.cells #[.int .i64 d0, .int .i64 d1, .int .i64 d2, .int .i64 d3, .int .i64 d4, .int .i64 d5, .int .i64 d6, .int .i64 d7] 65 (0, 0)) from heap_alloc_new wr _)
      have y0 : (wr.alloc (.cells #[.int .i64 d0, .int .i64 d1, .int .i64 d2, .int .i64 d3, .int .i64 d4, .int .i64 d5, .int .i64 d6, .int .i64 d7] 65)).cell? ⟨wr.heap.size, 0, none⟩ = some (.int .i64 d0) := cell_of_row _ _ 0 _ _ _ HROW.out
      have y1 : (wr.alloc (.cells #[.int .i64 d0, .int .i64 d1, .int .i64 d2, .int .i64 d3, .int .i64 d4, .int .i64 d5, .int .i64 d6, .int .i64 d7] 65)).cell? ⟨wr.heap.size, 1, none⟩ = some (.int .i64 d1) := cell_of_row _ _ 1 _ _ _ HROW.out
      have y2 : (wr.alloc (.cells #[.int .i64 d0, .int .i64 d1, .int .i64 d2, .int .i64 d3, .int .i64 d4, .int .i64 d5, .int .i64 d6, .int .i64 d7] 65)).cell? ⟨wr.heap.size, 2, none⟩ = some (.int .i64 d2) := cell_of_row _ _ 2 _ _ _ HROW.out
      have y3 : (wr.alloc (.cells #[.int .i64 d0, .int .i64 d1, .int .i64 d2, .int .i64 d3, .int .i64 d4, .int .i64 d5, .int .i64 d6, .int .i64 d7] 65)).cell? ⟨wr.heap.size, 3, none⟩ = some (.int .i64 d3) := cell_of_row _ _ 3 _ _ _ HROW.out
      have y4 : (wr.alloc (.cells #[.int .i64 d0, .int .i64 d1, .int .i64 d2, .int .i64 d3, .int .i64 d4, .int .i64 d5, .int .i64 d6, .int .i64 d7] 65)).cell? ⟨wr.heap.size, 4, none⟩ = some (.int .i64 d4) := cell_of_row _ _ 4 _ _ _ HROW.out
      have y5 : (wr.alloc (.cells #[.int .i64 d0, .int .i64 d1, .int .i64 d2, .int .i64 d3, .int .i64 d4, .int .i64 d5, .int .i64 d6, .int .i64 d7] 65)).cell? ⟨wr.heap.size, 5, none⟩ = some (.int .i64 d5) := cell_of_row _ _ 5 _ _ _ HROW.out
      have y6 : (wr.alloc (.cells #[.int .i64 d0, .int .i64 d1, .int .i64 d2, .int .i64 d3, .int .i64 d4, .int .i64 d5, .int .i64 d6, .int .i64 d7] 65)).cell? ⟨wr.heap.size, 6, none⟩ = some (.int .i64 d6) := cell_of_row _ _ 6 _ _ _ HROW.out
      have y7 : (wr.alloc (.cells #[.int .i64 d0, .int .i64 d1, .int .i64 d2, .int .i64 d3, .int .i64 d4, .int .i64 d5, .int .i64 d6, .int .i64 d7] 65)).cell? ⟨wr.heap.size, 7, none⟩ = some (.int .i64 d7) := cell_of_row _ _ 7 _ _ _ HROW.out
      have x0 : (wr.alloc (.cells #[.int .i64 d0, .int .i64 d1, .int .i64 d2, .int .i64 d3, .int .i64 d4, .int .i64 d5, .int .i64 d6, .int .i64 d7] 65)).cell? ⟨w.heap.size, 0, none⟩ = some (.int .i64 (V : Int)) := Below.keeps_cell HB3.out c0
      have x1 : (wr.alloc (.cells #[.int .i64 d0, .int .i64 d1, .int .i64 d2, .int .i64 d3, .int .i64 d4, .int .i64 d5, .int .i64 d6, .int .i64 d7] 65)).cell? ⟨w.heap.size, 1, none⟩ = some (.int .i64 b) := Below.keeps_cell HB3.out c1
      have V3 := Lib.hid (HV.out.keep HB3.out)
      have BB3 := Lib.hid (Below.step B3.out B3.out.size HB3.out)
      clear c0 c1
      go_wp2_with fail
      have U3 := Lib.hid V3.out.und
      refine (HLA.out _).mono ?_
      rintro e w4 ⟨u, rfl, hr4, hb4⟩
      have V4 := Lib.hid (V3.out.keep hb4)
      have B4 := Lib.hid (Below.step BB3.out BB3.out.size hb4)
      have q0 := Below.keeps_cell hb4 x0
      have q1 := Below.keeps_cell hb4 x1
      have AP := Lib.hid (LLi.far U3.out hr4)
      have R4 := Lib.hid (hr4.mono (by have := BB3.out.size; have := V3.out.row.at.2.2.1; omega : w.heap.size + 1 ≤ _))
      obtain ⟨a4, c4, rfl⟩ := hr4.shape'
      clear hr4 hb4 x0 x1 y0 y1 y2 y3 y4 y5 y6 y7 U3
      have hfz : ∀ j, w4.frozen? ⟨w.heap.size + 1, j, none⟩ = false := V4.out.row.at.2.2.2.2.2.2
      obtain ⟨z, hz⟩ : ∃ z, w4.cell? ⟨w.heap.size + 1, k, none⟩ = some z := ⟨_, V4.out.row.at.2.2.2.2.2.1 k (by rw [HVL.out]; exact hlt)⟩
      have HST := Lib.hid (V4.out.row.set k (.slice a4 (F k).length c4))
      have HRS := Lib.hid (rls_set F n k hlt)
      go_wp2
      go_roundw
      case rel =>
        have hset := V4.out.set R4.out AP.out HST.out.2 HST.out.1
        rw [HRS.out] at hset
        refine ⟨k + 1, _, by omega, by go_num, by rw [List.length_set]; exact HVL.out, hset, B4.out.setCell (by simp) _, ?_, ?_⟩
        · exact HST.out.2.cell q0 (by simp)
        · exact HST.out.2.cell q1 (by simp)
      case measure => simp [intOf]; omega
    · obtain rfl : k = n := by omega
      go_wp2
      go_ret
      refine ⟨_, vs, rfl, ?_, B3.out⟩
      have := HV.out.mono (Nat.le_succ w.heap.size)
      rwa [Nat.sub_self, List.replicate_zero, List.append_nil] at this

end Go.Proofs.Ytadjjmlneghklaa
