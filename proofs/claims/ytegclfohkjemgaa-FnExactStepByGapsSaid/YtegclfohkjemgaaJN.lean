/-
  Answers of StepByGaps.
-/
import Derived.Test.YtegclfohkjemgaaJM
namespace Go.Proofs.Ytegclfohkjemgaa
open Go.RowKit
set_option linter.unusedVariables false
set_option linter.unusedSimpArgs false
set_option maxRecDepth 100000

abbrev OK_StepByGaps (g : List Int) (W b : Int) : Bool := okG g W b
def LF_StepByGaps (g : List Int) (W b : Int) : List Int := if okG g W b = true then wd b W.toNat (gv b W.toNat g) else []
theorem LF_StepByGaps_len (g : List Int) (W b : Int) (h : g.length ≤ 1048576) : (LF_StepByGaps g W b).length ≤ 2000000 := by
  unfold LF_StepByGaps
  rcases okG_cases g W b with ⟨h, w, rfl, h1, h2, _⟩ | h
  · rw [h, if_pos rfl, wd_len]; simp; omega
  · rw [h]; simp

theorem okG_eq (g : List Int) (V : Nat) (b : Int) (hS : okS (V : Int) b = true) : okG g (V : Int) b = (decide (g.length = V / 2) && allIn 0 (b - 1) g && nr g) := by
  unfold okG
  rw [hS, Bool.true_and]
  congr 2
  by_cases h : g.length = V / 2
  · rw [decide_eq_true h, decide_eq_true (by omega)]
  · rw [decide_eq_false h, decide_eq_false (by omega)]

theorem impl_StepByGaps (v : Value) (g : List Int) (W b : Int) (B : Nat) (w : World) (h : Rd w B v g) (hl : g.length ≤ 1048576) :
    Calls Try.prog 25 #[v, .int .i64 W, .int .i64 b] w fun e w' => ∃ u, e = .returned (.tuple #[u, .bool (OK_StepByGaps g W b)]) ∧ Rd w' w.heap.size u (LF_StepByGaps g W b) ∧ Below w.heap.size w w' := by
  have H := Lib.hid h
  obtain ⟨a, cap, rfl⟩ := h.sl.len
  clear h
  have HAL := Lib.hid (alloc_below w (.cells #[.int .i64 W, .int .i64 b] 57))
  have HC0 := Lib.hid (show (w.alloc (.cells #[.int .i64 W, .int .i64 b] 57)).cell? ⟨w.heap.size, 0, none⟩ = some (.int .i64 W) by simp [go_sem])
  have HC1 := Lib.hid (show (w.alloc (.cells #[.int .i64 W, .int .i64 b] 57)).cell? ⟨w.heap.size, 1, none⟩ = some (.int .i64 b) by simp [go_sem])
  have HV := Lib.hid (show LF_StepByGaps g W b = (if okG g W b = true then wd b W.toNat (gv b W.toNat g) else []) from rfl)
  rw [HV.out, OK_StepByGaps]
  by_cases hS : okS W b = true
  · obtain ⟨⟨l1, l8⟩, b2, b16⟩ := okS_iff.1 hS
    obtain ⟨V, rfl⟩ : ∃ V : Nat, W = (V : Int) := ⟨W.toNat, by omega⟩
    have HVT := Lib.hid (show ((V : Int)).toNat = V by omega)
    rw [HVT.out]
    have hV8 : V ≤ 8 := by omega
    have hV1 : 1 ≤ V := by omega
    have HQ := Lib.hid (okG_eq g V b hS)
    have HAG := Lib.hid (fun (u : Value) (w' : World) (h : Sl w' u g) => areGaps_any u g V b w' h hV8 (by omega))
    rw [← HQ.out] at HAG
    rcases okG_cases g (V : Int) b with ⟨hq, w0, hw0, _, _, _, _, hgl, hga, hgn⟩ | hq
    · obtain rfl : V = w0 := by omega
      have HGL := Lib.hid hgl
      have HGA := Lib.hid hga
      have HGS := Lib.hid (fun w' => gapStep_any V b w' b2 b16 hV8 hV1)
      have HLI := Lib.hid (fun w' => list_any (wd b V (gv b V g)) b w' (by rw [wd_len]; exact hV8))
      have HFG := Lib.hid (fun (u : Value) (gq gs : Nat) (w' : World) (h : Sl w' u g) (hG : GS w' gq gs V b) => fromGaps_any u g gq gs V b w' h hG b2 b16 hV8 hgl hga)
      rw [wd_len] at HLI
      rw [hq, if_pos rfl]
      rw [hq] at HAG
      obtain ⟨ys, hys⟩ : ∃ ys, ys = wd b V (gv b V g) := ⟨_, rfl⟩
      rw [← hys] at HLI HFG
      rw [← hys]
      clear hys hgl hga hgn hw0
      go_enter Try.func25, Try.ntmps25
      go_wp2_with fail
      refine (isValid_any _ _ _).mono ?_
      rw [hS]
      rintro e w1 ⟨rfl, hb1⟩
      have B1 := Lib.hid (Below.step HAL.out HAL.out.size hb1)
      have c0 := Below.keeps_cell hb1 HC0.out
      have c1 := Below.keeps_cell hb1 HC1.out
      clear hb1
      go_wp2_with fail
      refine (HAG.out _ _ (H.out.keep B1.out).sl).mono ?_
      rintro e w2 ⟨rfl, hb2⟩
      have B2 := Lib.hid (Below.step B1.out B1.out.size hb2)
      have d0 := Below.keeps_cell hb2 c0
      have d1 := Below.keeps_cell hb2 c1
      clear hb2 c0 c1
      go_wp2
      have e0 : w2.drew.cell? ⟨w.heap.size, 0, none⟩ = some (.int .i64 (V : Int)) := d0
      have e1 : w2.drew.cell? ⟨w.heap.size, 1, none⟩ = some (.int .i64 b) := d1
      have B3 := Lib.hid (show Below w.heap.size w w2.drew from B2.out.drew)
      go_region_held3 (fun w' => w'.cell? ⟨w.heap.size, 0, none⟩ = some (.int .i64 (V : Int)) ∧ w'.cell? ⟨w.heap.size, 1, none⟩ = some (.int .i64 b)) (first | exact ⟨e0, e1⟩ | exact ⟨f0, f1⟩ | exact ⟨g0, g1⟩ | exact ⟨h0, h1⟩) (first
        | (go_at_call 65; refine (HGS.out _).mono ?_; rintro e w3 ⟨gq, gs, rfl, hG, hgq, hgs, hb3⟩; have HG := Lib.hid hG; have B4 := Lib.hid (Below.step B3.out B3.out.size hb3); have f0 := Below.keeps_cell hb3 e0; have f1 := Below.keeps_cell hb3 e1; clear hb3 hG hgq hgs)
        | (go_at_call 107; refine (HFG.out _ _ _ _ (H.out.keep B4.out).sl HG.out).mono ?_; rintro e w4 ⟨rfl, hb4⟩; have B5 := Lib.hid (Below.step B4.out B4.out.size hb4); have g0 := Below.keeps_cell hb4 f0; have g1 := Below.keeps_cell hb4 f1; clear hb4)
        | (go_at_call 64; refine (HLI.out _).mono ?_; rintro e w5 ⟨u5, rfl, hr5, hb5⟩; have R5 := Lib.hid (hr5.mono B5.out.size); have B6 := Lib.hid (Below.step B5.out B5.out.size hb5); have h0 := Below.keeps_cell hb5 g0; have h1 := Below.keeps_cell hb5 g1; clear hr5 hb5))
      go_wp2
      go_ret2
      exact ⟨u5, rfl, R5.out, B6.out⟩
    · rw [hq, if_neg (by simp)]
      rw [hq] at HAG
      go_enter Try.func25, Try.ntmps25
      go_wp2_with fail
      refine (isValid_any _ _ _).mono ?_
      rw [hS]
      rintro e w1 ⟨rfl, hb1⟩
      have B1 := Lib.hid (Below.step HAL.out HAL.out.size hb1)
      have c0 := Below.keeps_cell hb1 HC0.out
      have c1 := Below.keeps_cell hb1 HC1.out
      clear hb1
      go_wp2_with fail
      refine (HAG.out _ _ (H.out.keep B1.out).sl).mono ?_
      rintro e w2 ⟨rfl, hb2⟩
      have B2 := Lib.hid (Below.step B1.out B1.out.size hb2)
      clear hb2
      go_wp2
      go_ret2
      exact ⟨_, rfl, Rd.nil _ _, B2.out⟩
  · have hS' : okS W b = false := by simpa using hS
    have HO := Lib.hid (show okG g W b = false by unfold okG; rw [hS']; rfl)
    rw [HO.out, if_neg (by simp)]
    clear hS
    go_enter Try.func25, Try.ntmps25
    go_wp2_with fail
    refine (isValid_any _ _ _).mono ?_
    rw [hS']
    rintro e w1 ⟨rfl, hb1⟩
    have B1 := Lib.hid (Below.step HAL.out HAL.out.size hb1)
    clear hb1
    go_wp2
    go_ret2
    exact ⟨_, rfl, Rd.nil _ _, B1.out⟩

theorem spec_StepByGaps (v : Value) (g : List Int) (W b : Int) (B : Nat) (w : World) (h : Rd w B v g) (hl : g.length ≤ 1048576) :
    Calls Try.prog 24 #[v, .int .i64 W, .int .i64 b] w fun e w' => ∃ u, e = .returned (.tuple #[u, .bool (OK_StepByGaps g W b)]) ∧ Rd w' w.heap.size u (LF_StepByGaps g W b) ∧ Below w.heap.size w w' := by
  have H := Lib.hid h
  obtain ⟨a, cap, rfl⟩ := h.sl.len
  clear h
  have HV := Lib.hid (show LF_StepByGaps g W b = (if okG g W b = true then wd b W.toNat (gv b W.toNat g) else []) from rfl)
  rw [HV.out, OK_StepByGaps]
  have HL2 := Lib.hid (show g.length ≤ 2000000 by omega)
  by_cases hb : Bas b
  · have hd : decide (Bas b) = true := decide_eq_true hb
    obtain ⟨b2, b16⟩ := hb
    by_cases hW : 1 ≤ W ∧ W ≤ 8
    · obtain ⟨l1, l8⟩ := hW
      have hS : okS W b = true := okS_iff.2 ⟨⟨l1, l8⟩, b2, b16⟩
      obtain ⟨V, rfl⟩ : ∃ V : Nat, W = (V : Int) := ⟨W.toNat, by omega⟩
      have HVT := Lib.hid (show ((V : Int)).toNat = V by omega)
      rw [HVT.out]
      have hV8 : V ≤ 8 := by omega
      have HQ := Lib.hid (okG_eq g V b hS)
      by_cases hL : g.length = V / 2
      · have hne : ((g.length : Int) != (V : Int) / 2) = false := bne_no (by omega)
        by_cases hA : allIn 0 (b - 1) g = true
        · have HQ2 := Lib.hid (show okG g (V : Int) b = nr g by rw [HQ.out, hA, decide_eq_true hL]; rfl)
          have HGA := Lib.hid ((allIn_iff _ _ _).1 hA)
          have HGL := Lib.hid hL
          clear hL
          have HX := Lib.hid (show GC w a g by
            obtain ⟨a', cap', hu, hx⟩ := H.out.sl
            simp only [Value.slice.injEq] at hu
            obtain ⟨rfl, _, _⟩ := hu
            rcases hx with hx | ⟨ga, off, h1, h2, h3⟩
            · exact .inl hx
            · exact .inr ⟨ga, off, h1, h3⟩)
          have B2 := Lib.hid (Below.refl w.heap.size w)
          have HBY := Lib.hid (fun (u : Value) (w' : World) (h : Rd w' B u g) (hn : nr g = true) => gpBy_any u g V b B w' h b2 b16 hV8 HGL.out HGA.out hn)
          obtain ⟨ys, hys⟩ : ∃ ys, ys = wd b V (gv b V g) := ⟨_, rfl⟩
          rw [← hys] at HBY
          rw [← hys, HQ2.out]
          clear hys
          obtain ⟨q, hq⟩ : ∃ q, q = nr g := ⟨_, rfl⟩
          rw [← hq]
          have HNQ := Lib.hid hq
          clear hq
          obtain ⟨L, hL⟩ : ∃ L, L = (if q = true then ys else []) := ⟨_, rfl⟩
          rw [← hL]
          have HLQ := Lib.hid hL
          clear hL
          go_enter Try.func24, Try.ntmps24
          go_wp2_with (first | (go_at_call 58; refine (dgBase_any _ _).mono ?_; rw [hd]; rintro e w1 ⟨rfl, rfl⟩) | (go_at_call 59; refine (l1In_yes _ _ _ _ l1 l8).mono ?_; rintro e w1 ⟨rfl, rfl⟩) | (go_at_call 60; refine (l1All_any _ g _ _ _ _ H.out HL2.out).mono ?_; rw [hA]; rintro e w1 ⟨rfl, rfl⟩))
          go_loopw [8] (fun i wr => ∃ k : Nat, 1 ≤ k ∧ (k ≤ g.length ∨ k = 1) ∧ i = .int .i64 (k : Int) ∧ Hid (∀ j, j < k → j < g.length → 1 ≤ j → g.getD j 0 ≤ g.getD (j - 1) 0) ∧ Below w.heap.size w wr ∧ GC wr a g) (fun i _ => g.length - (intOf i).toNat)
          case atStart => exact ⟨1, Nat.le_refl _, .inr rfl, rfl, Lib.hid (fun j h1 _ h2 => by omega), B2.out, HX.out⟩
          case round =>
            obtain ⟨k, hk1, hk, rfl, HN, hbl, hgc⟩ := hrel
            have HB := Lib.hid hbl
            have HX := Lib.hid hgc
            clear hbl hgc
            by_cases hlt : k < g.length
            · rcases HX.out with hx | ⟨ga, off, rfl, hc⟩
              · rw [hx] at hlt; simp at hlt
              have hc1 := hc k hlt
              have hc2 := hc (k - 1) (by omega)
              obtain ⟨x, hx⟩ : ∃ x, x = g[k] := ⟨_, rfl⟩
              obtain ⟨y, hy⟩ : ∃ y, y = g[k - 1]'(by omega) := ⟨_, rfl⟩
              have HXD := Lib.hid (show g.getD k 0 = x by rw [hx]; simp [hlt])
              have HYD := Lib.hid (show g.getD (k - 1) 0 = y by rw [hy]; simp [show k - 1 < g.length by omega])
              rw [← hx] at hc1
              rw [← hy] at hc2
              have hk1' : k - 1 < g.length := by omega
              clear hc hx hy
              by_cases hle : x ≤ y
              · have HN2 := Lib.hid (show ∀ j, j < k + 1 → j < g.length → 1 ≤ j → g.getD j 0 ≤ g.getD (j - 1) 0 from fun j h1 h2 h3 => by
                  by_cases e : j = k
                  · subst e; rw [HXD.out, HYD.out]; exact hle
                  · exact HN.out j (by omega) h2 h3)
                go_wp2
                have hw1 : IntKind.i64.wrap ((k : Int) - 1) = ((k - 1 : Nat) : Int) := by rw [IntWalk.i64_in _ (by omega)]; omega
                go_quiet (fail)
                clear hw1
                go_wp2
                go_roundw
                case rel => exact ⟨k + 1, by omega, by omega, by go_num, HN2, below_drewN' HB.out _, HX.out.drewN _⟩
                case measure => simp [intOf]; omega
              · have HO := Lib.hid (show nr g = false from decide_eq_false (fun h => hle (by have := h k hlt hk1; rwa [HXD.out, HYD.out] at this)))
                go_wp2
                have hw1 : IntKind.i64.wrap ((k : Int) - 1) = ((k - 1 : Nat) : Int) := by rw [IntWalk.i64_in _ (by omega)]; omega
                go_quiet (fail)
                clear hw1
                go_wp2
                go_ret2
                exact ⟨_, by rw [HNQ.out, HO.out]; rfl, by rw [HLQ.out, HNQ.out, HO.out, if_neg (by simp)]; exact Rd.nil _ _, below_drewN' HB.out _⟩
            · have HO := Lib.hid (show nr g = true from decide_eq_true (fun j h1 h2 => HN.out j (by omega) h1 h2))
              go_wp2_with fail
              refine (HBY.out _ _ (H.out.keep HB.out) HO.out).mono ?_
              rintro e w2 ⟨u, rfl, hr, hb2⟩
              have R2 := Lib.hid (hr.mono HB.out.size)
              have B3 := Lib.hid (Below.step HB.out HB.out.size hb2)
              clear hr hb2
              go_wp2
              go_ret2
              exact ⟨u, by rw [HNQ.out, HO.out]; rfl, by rw [HLQ.out, HNQ.out, HO.out, if_pos rfl]; exact R2.out, B3.out⟩
        · have hA' : allIn 0 (b - 1) g = false := by simpa using hA
          have HO := Lib.hid (show okG g (V : Int) b = false by rw [HQ.out, hA', Bool.and_false]; rfl)
          rw [HO.out, if_neg (by simp)]
          clear hA
          have HGL := Lib.hid hL
          clear hL
          go_enter Try.func24, Try.ntmps24
          go_wp2_with (first | (go_at_call 58; refine (dgBase_any _ _).mono ?_; rw [hd]; rintro e w1 ⟨rfl, rfl⟩) | (go_at_call 59; refine (l1In_yes _ _ _ _ l1 l8).mono ?_; rintro e w1 ⟨rfl, rfl⟩) | (go_at_call 60; refine (l1All_any _ g _ _ _ _ H.out HL2.out).mono ?_; rw [hA']; rintro e w1 ⟨rfl, rfl⟩))
          go_ret2
          exact ⟨_, rfl, Rd.nil _ _, Below.refl _ _⟩
      · have hne : ((g.length : Int) != (V : Int) / 2) = true := bne_yes (by omega)
        have HO := Lib.hid (show okG g (V : Int) b = false by rw [HQ.out, decide_eq_false hL]; rfl)
        rw [HO.out, if_neg (by simp)]
        clear hL
        go_enter Try.func24, Try.ntmps24
        go_wp2_with (first | (go_at_call 58; refine (dgBase_any _ _).mono ?_; rw [hd]; rintro e w1 ⟨rfl, rfl⟩) | (go_at_call 59; refine (l1In_yes _ _ _ _ l1 l8).mono ?_; rintro e w1 ⟨rfl, rfl⟩))
        go_ret2
        exact ⟨_, rfl, Rd.nil _ _, Below.refl _ _⟩
    · have HO := Lib.hid (show okG g W b = false by unfold okG; rw [show okS W b = false from decide_eq_false (fun h => hW h.1)]; rfl)
      have HLW := Lib.hid (show W < 1 ∨ 8 < W by omega)
      rw [HO.out, if_neg (by simp)]
      clear hW
      go_enter Try.func24, Try.ntmps24
      go_wp2_with (first | (go_at_call 58; refine (dgBase_any _ _).mono ?_; rw [hd]; rintro e w1 ⟨rfl, rfl⟩) | (go_at_call 59; refine (l1In_no _ _ _ _ HLW.out).mono ?_; rintro e w1 ⟨rfl, rfl⟩))
      go_ret2
      exact ⟨_, rfl, Rd.nil _ _, Below.refl _ _⟩
  · have hd : decide (Bas b) = false := decide_eq_false hb
    have HO := Lib.hid (show okG g W b = false by unfold okG; rw [show okS W b = false from decide_eq_false (fun h => hb h.2)]; rfl)
    rw [HO.out, if_neg (by simp)]
    clear hb
    go_enter Try.func24, Try.ntmps24
    go_wp2_with (go_at_call 58; refine (dgBase_any _ _).mono ?_; rw [hd]; rintro e w1 ⟨rfl, rfl⟩)
    go_ret2
    exact ⟨_, rfl, Rd.nil _ _, Below.refl _ _⟩

end Go.Proofs.Ytegclfohkjemgaa
