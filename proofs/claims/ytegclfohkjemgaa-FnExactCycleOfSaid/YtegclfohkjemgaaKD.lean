/-
  The program's run of a word as lists.
-/
import Derived.Test.YtegclfohkjemgaaKC
namespace Go.Proofs.Ytegclfohkjemgaa
open Go.RowKit
set_option linter.unusedVariables false
set_option linter.unusedSimpArgs false
set_option maxRecDepth 100000

theorem rls_congr {F G : Nat → List Int} {n : Nat} (h : ∀ j, j < n → F j = G j) : rls F n = rls G n := List.map_congr_left fun j hj => h j (List.mem_range.1 hj)
theorem WC.part {w : World} {g n t m : Nat} {F : Nat → List Int} (h : WC w g 0 n F) (hm : t + m ≤ n) : WC w g (t * 8) m (fun j => F (t + j)) := fun j hj i hi => by
  have := h (t + j) (by omega) i hi
  rwa [show 0 + (t + j) * 8 + i = t * 8 + j * 8 + i by omega] at this
theorem WC.srcW {w : World} {g off n cap : Nat} {F : Nat → List Int} (h : WC w g off n F) : SrcW w (.slice (some ⟨g, off, none⟩) n cap) n F := .inr ⟨g, off, cap, rfl, h⟩

set_option maxHeartbeats 1000000 in
theorem runFrom_any (V M v : Nat) (b : Int) (w : World) (hM : b = ((M + 1 : Nat) : Int)) (hM1 : 1 ≤ M) (hM15 : M ≤ 15) (hV : V ≤ 8) (hV1 : 1 ≤ V) (hv : (v : Int) < b ^ V) :
    Calls Try.prog 68 #[shp (V : Int) b, .agg (dw (wd b V (v : Int)))] w fun e w' => ∃ u vs, e = .returned u ∧ LLi w' w.heap.size u vs (rls (rw' b V v) (rl (sN b V) RM v)) ∧ Below w.heap.size w w' := by
  have hb2 : 2 ≤ b := by omega
  have hb16 : b ≤ 16 := by omega
  have HEX := Lib.hid (bk_ex hM hM1 hM15 hV v)
  obtain ⟨s1, s2, s3, s4, s5, s6⟩ := rl_spec HEX.out
  have HRUN := Lib.hid (fun w' => run_any V M v b w' hM hM1 hM15 hV hV1 hv)
  obtain ⟨L, hL⟩ : ∃ L, L = rl (sN b V) RM v := ⟨_, rfl⟩
  obtain ⟨T, hT⟩ : ∃ T, T = tl (sN b V) RM v := ⟨_, rfl⟩
  have hrm : L ≤ 3877 := by rw [hL]; unfold RM at s2; exact s2
  have hTL : T < L := by rw [hL, hT]; exact s3
  obtain ⟨F, hF⟩ : ∃ F : Nat → List Int, F = rw' b V v := ⟨_, rfl⟩
  have HFL := Lib.hid (show ∀ j, (F j).length = V by rw [hF]; exact rw_len b V v)
  have HF8 := Lib.hid (show ∀ j, (F j).length ≤ 8 from fun j => by rw [HFL.out]; exact hV)
  have hx8 : (wd b V (v : Int)).length ≤ 8 := by rw [wd_len]; exact hV
  obtain ⟨X, hX⟩ : ∃ X, X = wd b V (v : Int) := ⟨_, rfl⟩
  rw [← hL, ← hT, ← hF, ← hX] at HRUN
  rw [← hL, ← hF, ← hX]
  rw [← hX] at hx8
  clear s1 s2 s3 s4 s5 s6 hL hT hF hX hM HEX
  have hsz := dw_size hx8
  have HI := Lib.hid (arr_dw X hx8)
  have HB1 := Lib.hid (show Below w.heap.size w ((w.alloc (.cells #[.int .i64 (V : Int), .int .i64 b] 57)).alloc (.cells (dw X) 63)) from (alloc_below w _).alloc (by simp) _)
  have HT1 := Lib.hid (show ((w.alloc (.cells #[.int .i64 (V : Int), .int .i64 b] 57)).alloc (.cells (dw X) 63)).heap[w.heap.size + 1]? = some (.cells (dw X) 63 (0, 0)) from heap_alloc2_new _ _ _)
  have C0 := Lib.hid (show ((w.alloc (.cells #[.int .i64 (V : Int), .int .i64 b] 57)).alloc (.cells (dw X) 63)).cell? ⟨w.heap.size, 0, none⟩ = some (.int .i64 (V : Int)) by simp [go_sem])
  have C1 := Lib.hid (show ((w.alloc (.cells #[.int .i64 (V : Int), .int .i64 b] 57)).alloc (.cells (dw X) 63)).cell? ⟨w.heap.size, 1, none⟩ = some (.int .i64 b) by simp [go_sem])
  have HCC := Lib.hid (fun (g cap gs : Nat) (w' : World) (hs0 : w'.cell? ⟨gs, 0, none⟩ = some (.slice (some ⟨g, 0, none⟩) T cap)) (hs1 : w'.cell? ⟨gs, 1, none⟩ = some (.slice (some ⟨g, T * 8, none⟩) (L - T) (cap - T))) (h : WC w' g 0 L F) =>
    concatW_any gs T (L - T) cap (cap - T) _ _ F (fun j => F (T + j)) w' hs0 hs1 (WC.srcW (fun j hj => h j (by omega))) (WC.srcW (h.part (by omega))) HF8.out (fun j => HF8.out _) (by omega) (by omega))
  have HLS := Lib.hid (fun (u : Value) (w' : World) (h : SrcW w' u (T + (L - T)) (jn T F (fun j => F (T + j)))) => lists_any u (T + (L - T)) V (jn T F (fun j => F (T + j))) b w' h (fun j => by unfold jn; split <;> exact HFL.out _) hV (by omega))
  have HJ8 := Lib.hid (show ∀ j, (jn T F (fun j => F (T + j)) j).length ≤ 8 from fun j => by unfold jn; split <;> exact HF8.out _)
  have HRL := Lib.hid (show rls (jn T F (fun j => F (T + j))) (T + (L - T)) = rls F L by
    rw [show T + (L - T) = L by omega]
    refine rls_congr fun j hj => ?_
    unfold jn
    split
    · rfl
    · show F (T + (j - T)) = F j
      rw [show T + (j - T) = j by omega])
  go_enter Try.func68, Try.ntmps68
  go_wp2_with (first
    | (refine wpList_load_row rfl 63 (.tmp 3) rfl (w.heap.size + 1) rfl _ (dw X) _ _ HT1.out arr8 rfl HI.out ?_)
    | (go_at_call 70; refine (HRUN.out _).mono ?_; rintro e w2 ⟨g, cap, rfl, hw2, hb2'⟩; have U2 := Lib.hid hw2; have B2 := Lib.hid (Below.step HB1.out HB1.out.size hb2'); have D0 := Lib.hid (Below.keeps_cell hb2' C0.out); have D1 := Lib.hid (Below.keeps_cell hb2' C1.out); clear hw2 hb2'))
  obtain ⟨w3, hw3⟩ : ∃ w3, w3 = w2.alloc (.cells #[.slice (some ⟨g, 0, none⟩) T cap, .slice (some ⟨g, T * 8, none⟩) (L - T) (cap - T)] 73) := ⟨_, rfl⟩
  have HA3 := Lib.hid (show Below w2.heap.size w2 w3 by rw [hw3]; exact alloc_below w2 _)
  have HN3 := Lib.hid (show w3.heap[w2.heap.size]? = some (.cells #[.slice (some ⟨g, 0, none⟩) T cap, .slice (some ⟨g, T * 8, none⟩) (L - T) (cap - T)] 73 (0, 0)) by rw [hw3]; exact heap_alloc_new w2 _)
  rw [← hw3]
  clear hw3
  have e0 : w3.drew.cell? ⟨w.heap.size, 0, none⟩ = some (.int .i64 (V : Int)) := Below.keeps_cell HA3.out D0.out
  have e1 : w3.drew.cell? ⟨w.heap.size, 1, none⟩ = some (.int .i64 b) := Below.keeps_cell HA3.out D1.out
  have e2 : w3.drew.cell? ⟨w2.heap.size, 0, none⟩ = some (.slice (some ⟨g, 0, none⟩) T cap) := cell_of_row w3 _ 0 _ _ _ HN3.out
  have e3 : w3.drew.cell? ⟨w2.heap.size, 1, none⟩ = some (.slice (some ⟨g, T * 8, none⟩) (L - T) (cap - T)) := cell_of_row w3 _ 1 _ _ _ HN3.out
  have HWC := Lib.hid (show WC w3.drew g 0 L F from WC.drew ((U2.out.wc HF8.out).2.2.1.keep HA3.out))
  have B3d := Lib.hid (show Below w.heap.size w w3.drew from (Below.step B2.out B2.out.size HA3.out).drew)
  have HAL := Lib.hid (alloc_below w3.drew (.cells #[.slice (some ⟨g, 0, none⟩) T cap, .slice (some ⟨g, T * 8, none⟩) (L - T) (cap - T)] 71))
  have a0 := Below.keeps_cell HAL.out e0
  have a1 := Below.keeps_cell HAL.out e1
  have a2 := Below.keeps_cell HAL.out e2
  have a3 := Below.keeps_cell HAL.out e3
  have B4 := Lib.hid (Below.step B3d.out B3d.out.size HAL.out)
  have X0 := Lib.hid (show (w3.drew.alloc (.cells #[.slice (some ⟨g, 0, none⟩) T cap, .slice (some ⟨g, T * 8, none⟩) (L - T) (cap - T)] 71)).cell? ⟨w3.heap.size, 0, none⟩ = some (.slice (some ⟨g, 0, none⟩) T cap) from cell_of_row _ _ 0 _ _ _ (heap_alloc_new w3.drew _))
  have X1 := Lib.hid (show (w3.drew.alloc (.cells #[.slice (some ⟨g, 0, none⟩) T cap, .slice (some ⟨g, T * 8, none⟩) (L - T) (cap - T)] 71)).cell? ⟨w3.heap.size, 1, none⟩ = some (.slice (some ⟨g, T * 8, none⟩) (L - T) (cap - T)) from cell_of_row _ _ 1 _ _ _ (heap_alloc_new w3.drew _))
  have HWA := Lib.hid (HWC.out.keep HAL.out)
  clear D0 D1 C0 C1 U2 B2 HT1 HB1 HI
  go_region_held3 (fun w' => w'.cell? ⟨w.heap.size, 0, none⟩ = some (.int .i64 (V : Int)) ∧ w'.cell? ⟨w.heap.size, 1, none⟩ = some (.int .i64 b) ∧ w'.cell? ⟨w2.heap.size, 0, none⟩ = some (.slice (some ⟨g, 0, none⟩) T cap) ∧ w'.cell? ⟨w2.heap.size, 1, none⟩ = some (.slice (some ⟨g, T * 8, none⟩) (L - T) (cap - T))) (first | exact ⟨e0, e1, e2, e3⟩ | exact ⟨a0, a1, a2, a3⟩ | exact ⟨f0, f1, f2, f3⟩ | exact ⟨g0, g1, g2, g3⟩) (first
    | (go_at_call 110; refine (HCC.out g cap _ _ X0.out X1.out HWA.out).mono ?_; rintro e w4 ⟨u, rfl, hr, hb4⟩; have U4 := Lib.hid hr; have B5 := Lib.hid (Below.step B4.out B4.out.size hb4); have f0 := Below.keeps_cell hb4 a0; have f1 := Below.keeps_cell hb4 a1; have f2 := Below.keeps_cell hb4 a2; have f3 := Below.keeps_cell hb4 a3; clear hr hb4)
    | (go_at_call 109; refine (HLS.out u _ (U4.out.src HJ8.out)).mono ?_; rintro e w5 ⟨z, vs, rfl, hl5, hb5⟩; have L5 := Lib.hid hl5; have B6 := Lib.hid (Below.step B5.out B5.out.size hb5); have g0 := Below.keeps_cell hb5 f0; have g1 := Below.keeps_cell hb5 f1; have g2 := Below.keeps_cell hb5 f2; have g3 := Below.keeps_cell hb5 f3; clear hl5 hb5))
  go_wp2
  go_ret
  refine ⟨z, vs, rfl, ?_, B6.out⟩
  have := L5.out.mono B5.out.size
  rwa [HRL.out] at this

end Go.Proofs.Ytegclfohkjemgaa
