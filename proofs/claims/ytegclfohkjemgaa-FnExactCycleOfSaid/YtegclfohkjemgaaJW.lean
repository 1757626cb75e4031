/-
  The program's run of a word.
-/
import Derived.Test.YtegclfohkjemgaaJV
namespace Go.Proofs.Ytegclfohkjemgaa
open Go.RowKit
set_option linter.unusedVariables false
set_option linter.unusedSimpArgs false
set_option maxRecDepth 100000

theorem setCell_grown (w : World) (g j : Nat) (v : Value) : w.grownBy (w.setCell ⟨g, j, none⟩ v) (some g) := by
  refine ⟨rfl, rfl, rfl, by simp [World.setCell], fun k hk hne => ?_⟩
  have : g ≠ k := fun e => hne (by rw [e])
  simp [World.setCell, Array.getElem?_modify, this]
/-- Nothing between B and the end of the first world has changed. -/
def SameH (w w' : World) (B : Nat) : Prop := ∀ k, B ≤ k → k < w.heap.size → w'.heap[k]? = w.heap[k]?
theorem cell_same {w w' : World} {a : Addr} {u : Value} (h : w'.heap[a.block]? = w.heap[a.block]?) (hc : w.cell? a = some u) : w'.cell? a = some u := (World.cell?_of_block h).trans hc
theorem SS.same {w w' : World} {B g3 g1 W : Nat} {b : Int} (h : SS w B g3 g1 W b) (hs : SameH w w' B) : SS w' B g3 g1 W b := by
  obtain ⟨⟨gq, gs, h1, ⟨gw, cw, h2, h3⟩, h4, h5, h6, h7⟩, h8, h9, h10, h11⟩ := h
  have e1 := fun (k : Nat) (o : Nat) (u : Value) (hk : B ≤ k) (hc : w.cell? ⟨k, o, none⟩ = some u) => cell_same (hs k hk (World.block_lt_of_cell? w ⟨k, o, none⟩ hc)) hc
  refine ⟨⟨gq, gs, e1 _ _ _ h10 h1, ⟨gw, cw, e1 _ _ _ h6 h2, ?_⟩, e1 _ _ _ h7 h4, e1 _ _ _ h7 h5, h6, h7⟩, e1 _ _ _ h11 h8, e1 _ _ _ h11 h9, h10, h11⟩
  have hl := h3.lt gw rfl
  refine ⟨h3.1, ?_⟩
  rcases h3.2 with hx | ⟨g, cap, cur, hv, hg, hh, r⟩
  · exact .inl hx
  · refine .inr ⟨g, cap, cur, hv, hg, ?_, r⟩
    have e : g = gw := by simp at hv; omega
    rw [hs g hg (by omega)]; exact hh

set_option maxHeartbeats 1000000 in
theorem run_any (V M v : Nat) (b : Int) (w : World) (hM : b = ((M + 1 : Nat) : Int)) (hM1 : 1 ≤ M) (hM15 : M ≤ 15) (hV : V ≤ 8) (hV1 : 1 ≤ V) (hv : (v : Int) < b ^ V) :
    Calls Try.prog 70 #[shp (V : Int) b, .agg (dw (wd b V (v : Int)))] w fun e w' => ∃ g cap, e = .returned (.agg #[.slice (some ⟨g, 0, none⟩) (tl (sN b V) RM v) cap, .slice (some ⟨g, tl (sN b V) RM v * 8, none⟩) (rl (sN b V) RM v - tl (sN b V) RM v) (cap - tl (sN b V) RM v)]) ∧
      Ww w' w.heap.size (.slice (some ⟨g, 0, none⟩) (rl (sN b V) RM v) cap) (rl (sN b V) RM v) (rw' b V v) ∧ Below w.heap.size w w' := by
  have hb2 : 2 ≤ b := by omega
  have hb16 : b ≤ 16 := by omega
  have HEX := Lib.hid (bk_ex hM hM1 hM15 hV v)
  obtain ⟨s1, s2, s3, s4, s5, s6⟩ := rl_spec HEX.out
  obtain ⟨L, hL⟩ : ∃ L, L = rl (sN b V) RM v := ⟨_, rfl⟩
  obtain ⟨T, hT⟩ : ∃ T, T = tl (sN b V) RM v := ⟨_, rfl⟩
  have hrm : L ≤ 3877 := by rw [hL]; unfold RM at s2; exact s2
  have hTL : T < L := by rw [hL, hT]; exact s3
  have HNE := Lib.hid (show ∀ i j, i < j → j < L → rw' b V v i ≠ rw' b V v j from fun i j h1 h2 h3 => s6 i j h1 (by rw [← hL]; exact h2) ((rw_inj hb2 hb16 hV hv).1 h3))
  have HNT := Lib.hid (show ∀ i, i < T → rw' b V v i ≠ rw' b V v L from fun i h1 h3 => by rw [hL] at h3; exact s5 i (by rw [← hT]; exact h1) ((rw_inj hb2 hb16 hV hv).1 h3))
  have HYT := Lib.hid (show rw' b V v T = rw' b V v L by rw [hL, hT]; exact (rw_inj hb2 hb16 hV hv).2 s4)
  obtain ⟨F, hF⟩ : ∃ F : Nat → List Int, F = rw' b V v := ⟨_, rfl⟩
  have HFL := Lib.hid (show ∀ j, (F j).length = V by rw [hF]; exact rw_len b V v)
  have HFA := Lib.hid (show ∀ j, ∀ x ∈ F j, 0 ≤ x ∧ x ≤ b - 1 by rw [hF]; exact rw_all hb2 V v)
  have HFS := Lib.hid (show ∀ k, F (k + 1) = wd b V (stv b (F k)) by rw [hF]; exact rw_succ hb2 hb16 hV v)
  have HF0 := Lib.hid (show wd b V (v : Int) = F 0 by rw [hF]; rfl)
  have HF8 := Lib.hid (show ∀ j, (F j).length ≤ 8 from fun j => by rw [HFL.out]; exact hV)
  rw [← hF] at HNE HNT HYT
  rw [← hL, ← hT, HF0.out, ← hF]
  clear s1 s2 s3 s4 s5 s6 hL hT hF hM
  have HCD := Lib.hid (fun (k : Nat) => dw_lit (HF8.out k))
  have hsz0 := dw_size (HF8.out 0)
  obtain ⟨w1, hw1⟩ : ∃ w1, w1 = (((w.alloc (.cells #[.int .i64 (V : Int), .int .i64 b] 57)).alloc (.cells (dw (F 0)) 63)).alloc (.cells #[.slice none 0 0, .slice none 0 0] 73)) := ⟨_, rfl⟩
  have HB1 := Lib.hid (show Below w.heap.size w w1 by rw [hw1]; exact ((alloc_below w _).alloc (by simp) _).alloc (by simp; omega) _)
  have HT1 := Lib.hid (show w1.heap[w.heap.size + 1]? = some (.cells (dw (F 0)) 63 (0, 0)) by
    rw [hw1, heap_alloc_old _ _ (by simp)]; exact heap_alloc2_new _ _ _)
  have HR1 := Lib.hid (show w1.cell? ⟨w.heap.size + 1 + 1, 0, none⟩ = some (.slice none 0 0) ∧ w1.cell? ⟨w.heap.size + 1 + 1, 1, none⟩ = some (.slice none 0 0) ∧ (∀ j, w1.frozen? ⟨w.heap.size + 1 + 1, j, none⟩ = false) by
    have hrow : Rg 73 w1 0 (.slice (some ⟨w.heap.size + 1 + 1, 0, none⟩) 2 2) [.slice none 0 0, .slice none 0 0] := by
      have h := World.ownsRow_lit (e := 73) (size := 1) (base := 0) ((w.alloc (.cells #[.int .i64 (V : Int), .int .i64 b] 57)).alloc (.cells (dw (F 0)) 63)) #[.slice none 0 0, .slice none 0 0] 2 (Nat.zero_le _) (by unfold maxLen; omega) rfl
      rw [World.size_alloc, World.size_alloc, ← hw1] at h
      exact h
    exact ⟨hrow.at.2.2.2.2.2.1 0 (by simp), hrow.at.2.2.2.2.2.1 1 (by simp), hrow.at.2.2.2.2.2.2⟩)
  have hz1 : w1.heap.size = w.heap.size + 1 + 1 + 1 := by rw [hw1]; simp
  have HZ1 := Lib.hid hz1
  clear hz1
  go_enter Try.func70, Try.ntmps70
  go_wp2_with fail
  rw [← hw1]
  clear hw1
  refine (sortedStep_any V b _ hb2 hb16 hV hV1).mono ?_
  rintro e w2 ⟨g3, g1, rfl, hs, hb2'⟩
  have S2 := Lib.hid hs
  have B2 := Lib.hid (Below.step HB1.out HB1.out.size hb2')
  have HT2 := Lib.hid ((hb2'.block _ (by rw [HZ1.out]; omega)).trans HT1.out)
  have HR2 := Lib.hid (show w2.cell? ⟨w.heap.size + 1 + 1, 0, none⟩ = some (.slice none 0 0) ∧ w2.cell? ⟨w.heap.size + 1 + 1, 1, none⟩ = some (.slice none 0 0) ∧ (∀ j, w2.frozen? ⟨w.heap.size + 1 + 1, j, none⟩ = false) from
    ⟨Below.keeps_cell hb2' HR1.out.1, Below.keeps_cell hb2' HR1.out.2.1, fun j => by rw [hb2'.frozen (p := ⟨w.heap.size + 1 + 1, j, none⟩) (by rw [HZ1.out]; simp)]; exact HR1.out.2.2 j⟩)
  have HZ2 := Lib.hid (show w.heap.size + 1 + 1 + 1 ≤ w2.heap.size by have := hb2'.size; rw [HZ1.out] at this; exact this)
  rw [HZ1.out] at S2
  clear hs hb2' HT1 HR1 HB1 HZ1
  go_wp2
  go_loopw [6, 7] (fun u _ wr => ∃ k : Nat, k ≤ L ∧ Ww wr w2.heap.size u k F ∧ wr.heap[w.heap.size + 1]? = some (.cells (dw (F k)) 63 (0, 0)) ∧ Below w.heap.size w wr ∧ SameH w2 wr (w.heap.size + 1 + 1 + 1) ∧ w2.heap.size ≤ wr.heap.size ∧
    wr.cell? ⟨w.heap.size + 1 + 1, 0, none⟩ = some (.slice none 0 0) ∧ wr.cell? ⟨w.heap.size + 1 + 1, 1, none⟩ = some (.slice none 0 0) ∧ (∀ j, wr.frozen? ⟨w.heap.size + 1 + 1, j, none⟩ = false)) (fun u _ _ => L + 1 - lenW u)
  case atStart => exact ⟨0, Nat.zero_le _, Ww.nil _ _ _, HT2.out, B2.out, fun _ _ _ => rfl, Nat.le_refl _, HR2.out.1, HR2.out.2.1, HR2.out.2.2⟩
  case round =>
    obtain ⟨k, hk, hu, ht, hbl, hss, hzw, r0, r1, rf⟩ := hrel
    have HU := Lib.hid hu
    have HT := Lib.hid ht
    have HB := Lib.hid hbl
    have HS := Lib.hid hss
    have HD := Lib.hid (dw_cells (HF8.out k) ht)
    obtain ⟨a6, c6, rfl⟩ := hu.lenOf
    have HSR := Lib.hid (hu.src HF8.out)
    clear hu ht hbl hss
    have HIX := Lib.hid (fun (t : Nat) (w' : World) (h : SrcW w' (.slice a6 k c6) k F) (ht : t ≤ k) (hno : ∀ j, j < t → F j ≠ F k) (hyes : t < k → F t = F k) => indexW_any (.slice a6 k c6) k t F (F k) w' h (HF8.out k) (fun j _ => by rw [HFL.out, HFL.out]) ht hno hyes (by omega))
    have HWS := Lib.hid (fun (B0 : Nat) (w' : World) (h : SS w' B0 g3 g1 (F k).length b) => word_step (F k) g3 g1 b w' h hb2 hb16 (HF8.out k) (HFA.out k))
    rw [HFL.out k, ← HFS.out k] at HWS
    rw [HCD.out k] at HIX HWS
    obtain ⟨d0, hd0⟩ : ∃ d, d = (F k).getD 0 0 := ⟨_, rfl⟩
    obtain ⟨d1, hd1⟩ : ∃ d, d = (F k).getD 1 0 := ⟨_, rfl⟩
    obtain ⟨d2, hd2⟩ : ∃ d, d = (F k).getD 2 0 := ⟨_, rfl⟩
    obtain ⟨d3, hd3⟩ : ∃ d, d = (F k).getD 3 0 := ⟨_, rfl⟩
    obtain ⟨d4, hd4⟩ : ∃ d, d = (F k).getD 4 0 := ⟨_, rfl⟩
    obtain ⟨d5, hd5⟩ : ∃ d, d = (F k).getD 5 0 := ⟨_, rfl⟩
    obtain ⟨d6, hd6⟩ : ∃ d, d = (F k).getD 6 0 := ⟨_, rfl⟩
    obtain ⟨d7, hd7⟩ : ∃ d, d = (F k).getD 7 0 := ⟨_, rfl⟩
    have HLIT := Lib.hid (HCD.out k)
    rw [← hd0, ← hd1, ← hd2, ← hd3, ← hd4, ← hd5, ← hd6, ← hd7] at HIX HWS HLIT
    have k0 : wr.cell? ⟨w.heap.size + 1, 0, none⟩ = some (.int .i64 d0) := by rw [hd0]; exact HD.out 0 (by omega)
    have k1 : wr.cell? ⟨w.heap.size + 1, 1, none⟩ = some (.int .i64 d1) := by rw [hd1]; exact HD.out 1 (by omega)
    have k2 : wr.cell? ⟨w.heap.size + 1, 2, none⟩ = some (.int .i64 d2) := by rw [hd2]; exact HD.out 2 (by omega)
    have k3 : wr.cell? ⟨w.heap.size + 1, 3, none⟩ = some (.int .i64 d3) := by rw [hd3]; exact HD.out 3 (by omega)
    have k4 : wr.cell? ⟨w.heap.size + 1, 4, none⟩ = some (.int .i64 d4) := by rw [hd4]; exact HD.out 4 (by omega)
    have k5 : wr.cell? ⟨w.heap.size + 1, 5, none⟩ = some (.int .i64 d5) := by rw [hd5]; exact HD.out 5 (by omega)
    have k6 : wr.cell? ⟨w.heap.size + 1, 6, none⟩ = some (.int .i64 d6) := by rw [hd6]; exact HD.out 6 (by omega)
    have k7 : wr.cell? ⟨w.heap.size + 1, 7, none⟩ = some (.int .i64 d7) := by rw [hd7]; exact HD.out 7 (by omega)
    clear hd0 hd1 hd2 hd3 hd4 hd5 hd6 hd7 HD
    by_cases hkL : k < L
    · go_wp2_with fail
      refine (HIX.out k _ HSR.out (Nat.le_refl _) (fun j hj => HNE.out j k hj hkL) (fun h => absurd h (Nat.lt_irrefl _))).mono ?_
      rw [if_neg (Nat.lt_irrefl _)]
      rintro e w3 ⟨rfl, hb3⟩
      have U3 := Lib.hid (HU.out.keep hb3)
      have B3 := Lib.hid (Below.step HB.out HB.out.size hb3)
      have S3 := Lib.hid (show SameH w2 w3 (w.heap.size + 1 + 1 + 1) from fun q h1 h2 => (hb3.block q (by omega)).trans (HS.out q h1 h2))
      have Z3 := Lib.hid (Nat.le_trans hzw hb3.size)
      have T3 := Lib.hid ((hb3.block _ (by have := HZ2.out; omega)).trans HT.out)
      have m0 := Below.keeps_cell hb3 k0; have m1 := Below.keeps_cell hb3 k1; have m2 := Below.keeps_cell hb3 k2; have m3 := Below.keeps_cell hb3 k3; have m4 := Below.keeps_cell hb3 k4; have m5 := Below.keeps_cell hb3 k5; have m6 := Below.keeps_cell hb3 k6; have m7 := Below.keeps_cell hb3 k7
      have q0 := Below.keeps_cell hb3 r0
      have q1 := Below.keeps_cell hb3 r1
      have qf := Lib.hid (show ∀ j, w3.frozen? ⟨w.heap.size + 1 + 1, j, none⟩ = false from fun j => by rw [hb3.frozen (p := ⟨w.heap.size + 1 + 1, j, none⟩) (by have := HZ2.out; simp; omega)]; exact rf j)
      clear hb3 r0 r1 rf k0 k1 k2 k3 k4 k5 k6 k7
      have HA := Lib.hid (alloc_below w3 (.cells #[.int .i64 d0, .int .i64 d1, .int .i64 d2, .int .i64 d3, .int .i64 d4, .int .i64 d5, .int .i64 d6, .int .i64 d7] 63))
      have HSL := Lib.hid (show SrcW (w3.alloc (.cells #[.int .i64 d0, .int .i64 d1, .int .i64 d2, .int .i64 d3, .int .i64 d4, .int .i64 d5, .int .i64 d6, .int .i64 d7] 63)) (.slice (some ⟨w3.heap.size, 0, none⟩) 1 1) 1 (fun _ => F k) from .inr ⟨w3.heap.size, 0, 1, rfl, fun j hj i hi => by
        obtain rfl : j = 0 := by omega
        rw [show 0 + 0 * 8 + i = i by omega]
        exact dw_cells (HF8.out k) (by rw [HLIT.out]; exact heap_alloc_new w3 _) i hi⟩)
      have HWC := Lib.hid (show wcs k F ++ wcs 1 (fun _ => F k) = wcs (k + 1) F by rw [wcs_succ, wcs_succ, wcs_zero, List.nil_append])
      have HNB := Lib.hid (show ∀ j, j < w2.heap.size → some j ≠ (Value.slice a6 k c6).ownBlock from fun j hj e => by have := (U3.out.lt j e.symm).1; omega)
      have HZ2' := HZ2.out
      have hz3 := Z3.out
      go_wp2_with (first
        | (at_builtin; refine wpList_appW rfl (.tmp 22) (.tmp 24) rfl w2.heap.size _ _ k 1 F (fun _ => F k) rfl rfl (U3.out.alloc _) HSL.out (fun _ => HF8.out k) (by omega) (Nat.le_trans Z3.out HA.out.size) ?_; intro v4 w4 hr4 hg4 hb4; have U4 := Lib.hid (show Ww w4 w2.heap.size v4 (k + 1) F by unfold Ww; rw [← HWC.out]; exact hr4); have G4 := Lib.hid hg4; have B4 := Lib.hid ((B3.out.alloc B3.out.size _).trans (hb4.mono B2.out.size)); have Z4 := Lib.hid (Nat.le_trans (Nat.le_trans Z3.out HA.out.size) hb4.size); have n0 := hg4.cell (Below.keeps_cell HA.out m0) (HNB.out (w.heap.size + 1) (by omega)); have n1 := hg4.cell (Below.keeps_cell HA.out m1) (HNB.out (w.heap.size + 1) (by omega)); have n2 := hg4.cell (Below.keeps_cell HA.out m2) (HNB.out (w.heap.size + 1) (by omega)); have n3 := hg4.cell (Below.keeps_cell HA.out m3) (HNB.out (w.heap.size + 1) (by omega)); have n4 := hg4.cell (Below.keeps_cell HA.out m4) (HNB.out (w.heap.size + 1) (by omega)); have n5 := hg4.cell (Below.keeps_cell HA.out m5) (HNB.out (w.heap.size + 1) (by omega)); have n6 := hg4.cell (Below.keeps_cell HA.out m6) (HNB.out (w.heap.size + 1) (by omega)); have n7 := hg4.cell (Below.keeps_cell HA.out m7) (HNB.out (w.heap.size + 1) (by omega)); clear hr4 hg4 hb4))
      have hz4 := Z4.out
      have S4 := Lib.hid (show SameH w2 w4 (w.heap.size + 1 + 1 + 1) from fun q h1 h2 => by
        rw [G4.out.block q (by rw [World.size_alloc]; omega) (HNB.out q h2), heap_alloc_old _ _ (by omega)]
        exact S3.out q h1 h2)
      have T4 := Lib.hid (show w4.heap[w.heap.size + 1]? = some (.cells (dw (F k)) 63 (0, 0)) by
        rw [G4.out.block _ (by rw [World.size_alloc]; omega) (HNB.out (w.heap.size + 1) (by omega)), heap_alloc_old _ _ (by omega)]
        exact T3.out)
      have x0 := G4.out.cell (Below.keeps_cell HA.out q0) (HNB.out (w.heap.size + 1 + 1) (by omega))
      have x1 := G4.out.cell (Below.keeps_cell HA.out q1) (HNB.out (w.heap.size + 1 + 1) (by omega))
      refine (HWS.out _ _ (S2.out.same S4.out)).mono ?_
      rintro e w5 ⟨rfl, hb5⟩
      have U5 := Lib.hid (U4.out.keep hb5)
      have B5 := Lib.hid (Below.step B4.out B4.out.size hb5)
      have S5 := Lib.hid (show SameH w2 w5 (w.heap.size + 1 + 1 + 1) from fun q h1 h2 => (hb5.block q (by have := Z4.out; omega)).trans (S4.out q h1 h2))
      have Z5 := Lib.hid (Nat.le_trans Z4.out hb5.size)
      have T5 := Lib.hid ((hb5.block _ (by have := Z4.out; omega)).trans T4.out)
      have y0 := Lib.hid (Below.keeps_cell hb5 x0)
      have y1 := Lib.hid (Below.keeps_cell hb5 x1)
      have yf := Lib.hid (show ∀ j, w5.frozen? ⟨w.heap.size + 1 + 1, j, none⟩ = false from fun j => by
        rw [hb5.frozen (p := ⟨w.heap.size + 1 + 1, j, none⟩) (by have := Z4.out; simp; omega), G4.out.frozen_far ⟨w.heap.size + 1 + 1, j, none⟩ (by rw [World.size_alloc]; simp; omega) (HNB.out (w.heap.size + 1 + 1) (by omega)), HA.out.frozen (p := ⟨w.heap.size + 1 + 1, j, none⟩) (by simp; omega)]
        exact qf.out j)
      obtain ⟨a4, c4, rfl⟩ := U4.out.lenOf
      clear hb5 x0 x1
      obtain ⟨cs, hcs⟩ : ∃ cs, cs = dw (F (k + 1)) := ⟨_, rfl⟩
      have HI := Lib.hid (show (Try.prog.info? 63).map (·.size) = some cs.size by rw [hcs]; exact arr_dw _ (HF8.out _))
      have HOD := Lib.hid (show (dw (F k)).size = cs.size by rw [hcs, dw_size (HF8.out k), dw_size (HF8.out (k + 1))])
      have HON := Lib.hid (show cs.all (·.oneCell') = true by rw [hcs]; exact one_dw _)
      have HCS := Lib.hid hcs
      rw [← hcs]
      clear hcs
      go_wp2_with (refine wpList_store_row rfl 63 (.tmp 3) (.tmp 28) rfl (w.heap.size + 1) cs rfl rfl _ (dw (F k)) T5.out HI.out HOD.out HON.out ?_)
      have HNU := Lib.hid (show (Value.slice a4 (k + 1) c4).ownBlock ≠ some (w.heap.size + 1) from fun e => by have := (U5.out.lt _ e).1; omega)
      have hz5 := Z5.out
      have HG6 := Lib.hid (setRow_grown w5 (w.heap.size + 1) cs)
      go_frame
      go_roundw
      case rel =>
        refine ⟨k + 1, by omega, U5.out.grown HG6.out (.inr HNU.out), by rw [← HCS.out]; exact setRow_heap _ _ _ _ _ _ T5.out, below_setRow B5.out (by omega) _, fun q h1 h2 => (HG6.out.block q (by have := Z5.out; omega) (by simp; omega)).trans (S5.out q h1 h2), by rw [setRow_size]; exact Z5.out, HG6.out.cell y0.out (by simp), HG6.out.cell y1.out (by simp), fun j => ?_⟩
        · rw [HG6.out.frozen_far ⟨w.heap.size + 1 + 1, j, none⟩ (by have := Z5.out; simp; omega) (by simp)]; exact yf.out j
      case measure => simp [lenW]; omega
    · obtain rfl : k = L := by omega
      obtain ⟨g, rfl⟩ : ∃ g, a6 = some ⟨g, 0, none⟩ := by
        rcases HU.out.shape with ⟨_, h0⟩ | ⟨g, cap, he⟩
        · omega
        · simp only [Value.slice.injEq] at he; exact ⟨g, he.1⟩
      have hcap := (HU.out.wc HF8.out).2.2.2.1
      have hcapm := (HU.out.wc HF8.out).2.2.2.2
      unfold maxLen at hcapm
      go_wp2_with fail
      refine (HIX.out T _ HSR.out (Nat.le_of_lt hTL) HNT.out (fun _ => HYT.out)).mono ?_
      rw [if_pos hTL]
      rintro e w3 ⟨rfl, hb3⟩
      have U3 := Lib.hid (HU.out.keep hb3)
      have B3 := Lib.hid (Below.step HB.out HB.out.size hb3)
      have q0 := Below.keeps_cell hb3 r0
      have q1 := Below.keeps_cell hb3 r1
      have qf : ∀ j, w3.frozen? ⟨w.heap.size + 1 + 1, j, none⟩ = false := fun j => by rw [hb3.frozen (p := ⟨w.heap.size + 1 + 1, j, none⟩) (by have := HZ2.out; simp; omega)]; exact rf j
      have hT0 : (0 : Int) ≤ (T : Int) := Int.natCast_nonneg _
      have hTk : T ≤ k := by omega
      have hTc : ¬ c6 = T := by omega
      have hTc2 : T ≤ c6 := by omega
      clear hb3 r0 r1 rf k0 k1 k2 k3 k4 k5 k6 k7
      go_wp2
      have q0d : w3.drew.cell? ⟨w.heap.size + 1 + 1, 0, none⟩ = some (.slice none 0 0) := q0
      have q1d : w3.drew.cell? ⟨w.heap.size + 1 + 1, 1, none⟩ = some (.slice none 0 0) := q1
      have qfd : ∀ j, w3.drew.frozen? ⟨w.heap.size + 1 + 1, j, none⟩ = false := qf
      have U3d := Lib.hid (show Ww w3.drew w2.heap.size _ k F from U3.out)
      have B3d := Lib.hid (show Below w.heap.size w w3.drew from B3.out.drew)
      go_still_tail 7, (by kernel_rfl)
      change wpList _ _ _ _ _ w3.drew
      clear q0 q1 qf U3 B3
      generalize w3.drew = w4 at *
      go_wp2
      refine bodyPost_ret (v := .agg #[.slice (some ⟨g, 0, none⟩) T c6, .slice (some ⟨g, T * 8, none⟩) (k - T) (c6 - T)]) (by simp [results, Try.results70, go_sem, q0d, q1d]) rfl ⟨g, c6, rfl, ?_, ?_⟩
      · have h1 := setCell_grown w4 (w.heap.size + 1 + 1) 0 (.slice (some ⟨g, 0, none⟩) T c6)
        have h2 := setCell_grown (w4.setCell ⟨w.heap.size + 1 + 1, 0, none⟩ (.slice (some ⟨g, 0, none⟩) T c6)) (w.heap.size + 1 + 1) 1 (.slice (some ⟨g, T * 8, none⟩) (k - T) (c6 - T))
        have hne : (Value.slice (some ⟨g, 0, none⟩) k c6).ownBlock ≠ some (w.heap.size + 1 + 1) := fun e => by have := (U3d.out.lt _ e).1; have := HZ2.out; omega
        exact ((U3d.out.grown h1 (.inr hne)).grown h2 (.inr hne)).mono B2.out.size
      · exact (B3d.out.setCell (by simp; omega) _).setCell (by simp; omega) _

end Go.Proofs.Ytegclfohkjemgaa
