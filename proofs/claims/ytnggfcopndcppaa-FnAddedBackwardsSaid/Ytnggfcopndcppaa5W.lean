/-
  The law of sums with the same backwards (written by wip/tools/gen_5w.py).
-/
import Derived.Test.Ytnggfcopndcppaa5E
import Derived.Test.Ytnggfcopndcppaa5L
import Derived.Test.YtnggfcopndcppaaT8
import Derived.Test.YtnggfcopndcppaaTQ
import Derived.Test.YtnggfcopndcppaaTI
import Derived.Deep.QuietTactic
import Derived.BigQuiet
namespace Go.Proofs.Ytnggfcopndcppaa
open Go.RowKit
set_option linter.unusedVariables false
set_option linter.unusedSimpArgs false
set_option maxRecDepth 100000

theorem below_drewQ' {B : Nat} {a w : World} (h : Below B a w) (n : Nat) : Below B a (w.drewN n) := ⟨h.1, h.2, h.3, h.4, h.5⟩
theorem w_any (n : Int) (h : -1000 ≤ n ∧ n ≤ 1000) : wrap64 n = n := by unfold wrap64; omega
theorem i_any (n : Int) (h : -1000 ≤ n ∧ n ≤ 1000) : IntKind.i64.wrap n = n := IntWalk.i64_in n (by omega)
theorem slice_some {w : World} {B : Nat} {v : Value} {xs : List Int} (h : Rd w B v xs) (h0 : 0 < xs.length) : ∃ g cap, v = .slice (some ⟨g, 0, none⟩) xs.length cap ∧ xs.length ≤ cap ∧ g < w.heap.size ∧ ∀ j, j < xs.length → w.cell? ⟨g, j, none⟩ = some (.int .i64 (xs.getD j 0)) := by
  obtain ⟨a, cap, rfl, hc, hl⟩ := rd_liesB h
  rcases hl with hl | ⟨g, rfl, hg, hl⟩
  · omega
  · exact ⟨g, cap, rfl, hc, hg, fun j hj => hl j _ (getD_someA hj)⟩

theorem slice_cell {w : World} {B g cap n : Nat} {xs : List Int} (h : Rd w B (.slice (some ⟨g, 0, none⟩) n cap) xs) {j : Nat} (hj : j < xs.length) : w.cell? ⟨g, j, none⟩ = some (.int .i64 (xs.getD j 0)) := by
  rw [h.at.2.2.2.2.1 j hj, List.getD_eq_getElem?_getD, List.getElem?_eq_getElem hj]
  rfl

set_option maxHeartbeats 20000000 in
theorem law_AddedBackwards {W : World} (v0 : Value) (xs0 : List Int) (hs0 : Sb W v0 xs0) (v1 : Value) (xs1 : List Int) (hs1 : Sb W v1 xs1) :
    Calls Try.prog 3 #[v0, v1] W fun e w' => e = .returned (.bool true) ∧ Below W.heap.size W w' := by
  obtain ⟨a0, k0, rfl⟩ := hs0.len
  obtain ⟨a1, k1, rfl⟩ := hs1.len
  have HS0 := Lib.hid hs0
  have HS1 := Lib.hid hs1
  have HB := Lib.hid (big_any a0 a1 xs0.length xs1.length k0 k1 W)
  clear hs0 hs1
  by_cases hbig : 1048576 < xs0.length ∨ 1048576 < xs0.length + xs1.length
  · rw [decide_eq_true hbig] at HB
    go_enter Try.func3, Try.ntmps3
    go_wp2_with (go_at_call 6; refine HB.out.mono ?_; rintro e w ⟨rfl, rfl⟩)
    go_ret
    exact ⟨rfl, Below.refl _ _⟩
  rw [decide_eq_false hbig] at HB
  have hl0 : xs0.length ≤ 1048576 := by omega
  have hl1 : xs1.length ≤ 1048576 := by omega
  have HL1 := Lib.hid hl1
  clear hbig
  go_enter Try.func3, Try.ntmps3
  go_wp2_with fail
  refine HB.out.mono ?_
  rintro e w ⟨rfl, rfl⟩
  go_wp2_with fail
  refine (draw_AddReversed _ xs0 _ HS0.out hl0).mono ?_
  rintro e w1 ⟨u, ls, z, rfl, hll, hr, hb⟩
  have BE1 := Lib.hid hb
  have R0 := Lib.hid hr
  have HLL := Lib.hid hll
  clear hb hr hl0 hl1 hll
  have HI1 := Lib.hid (fun w h => impl_AddReversed u ls z W.heap.size w h (by have := HLL.out; omega))
  have HT1 := Lib.hid (fun w h => spec_AddReversed u ls z W.heap.size w h (by have := HLL.out; omega))
  have HI2 := Lib.hid (fun w h => impl_CarriesOf u ls z W.heap.size w h (by have := HLL.out; omega))
  have HT2 := Lib.hid (fun w h => spec_CarriesOf u ls z W.heap.size w h (by have := HLL.out; omega))
  have HI3 := Lib.hid (fun w h => impl_HasNoCarry u ls z W.heap.size w h (by have := HLL.out; omega))
  have HT3 := Lib.hid (fun w h => spec_HasNoCarry u ls z W.heap.size w h (by have := HLL.out; omega))
  have HI4 := Lib.hid (fun w h => impl_SubtractReversed u ls z W.heap.size w h (by have := HLL.out; omega))
  have HT4 := Lib.hid (fun w h => spec_SubtractReversed u ls z W.heap.size w h (by have := HLL.out; omega))
  have HDL := Lib.hid (LF_SubtractReversed_len ls z (by have := HLL.out; omega))
  simp only [VAL_HasNoCarry, OK_AddReversed, OK_CarriesOf, OK_SubtractReversed] at HI1 HT1 HI2 HT2 HI3 HT3 HI4 HT4
  obtain ⟨LD, hLD⟩ : ∃ LD, LD = LF_SubtractReversed ls z := ⟨_, rfl⟩
  rw [← hLD] at HI4 HT4 HDL
  clear hLD
  rcases okR_cases z ls with ⟨ho, hdg⟩ | ho
  · skip
    obtain ⟨over, hF⟩ := add_facts hdg
    have HF := Lib.hid hF
    have HDG := Lib.hid hdg
    have hn1 := hdg.l1
    have HOS := Lib.hid (fun h => okR_sum ho h)
    have HOR := Lib.hid (fun h => okR_rev ho h)
    have eC : LF_CarriesOf ls z = cyA z (smA 1 1 ls) 0 := if_pos ho
    have HRV := Lib.hid (rvA_rev z ls)
    rw [eC, ho] at HI2 HT2
    rw [ho, Bool.true_and] at HI3 HT3
    rw [ho] at HI4 HT4
    obtain ⟨C, hC⟩ : ∃ C, C = cyA z (smA 1 1 ls) 0 := ⟨_, rfl⟩
    rw [← hC] at HI2 HT2 HF
    obtain ⟨nc, hnc⟩ : ∃ nc, nc = ncB z ls := ⟨_, rfl⟩
    have HNC := Lib.hid HF.out.none
    have HSY := Lib.hid HF.out.sym
    rw [← hnc] at HI3 HT3 HNC HSY
    have HCL := Lib.hid (show C.length ≤ 41 by rw [HF.out.clen]; exact HLL.out)
    have hov := HF.out.ov
    have hAEq : OK_AddReversed ls z = decide ((rvA z ls).length ≤ 40) := by show okA z ls = _; unfold okA; rw [ho, Bool.true_and]
    clear hF hdg hC hnc eC
    by_cases hA : (rvA z ls).length ≤ 40
    · skip
      have eA : okA z ls = true := okA_yes ho hA
      have eS : LF_AddReversed ls z = rvA z ls := if_pos eA
      have HOS2 := Lib.hid (HOS.out hA)
      have HSB := Lib.hid (fun (h : 0 < ls.reverse.headD 0) => (show okA z ls.reverse = true from okA_yes (HOR.out h) (by rw [HRV.out]; exact hA)))
      rw [eS, eA] at HI1 HT1
      have HZL := Lib.hid HF.out.zlen
      obtain ⟨Z, hZ⟩ : ∃ Z, Z = rvA z ls := ⟨_, rfl⟩
      rw [← hZ] at HI1 HT1 HF HSY HOS2 HZL hA HRV
      have HSL := Lib.hid hA
      clear hZ eA eS hAEq ho hA HOS
      go_wp2_with fail
      refine (HI1.out _ (R0.out)).mono ?_
      rintro e w2 ⟨uS, rfl, hr, hb⟩
      have R1 := Lib.hid (R0.out.keep hb)
      have BE2 := Lib.hid (BE1.out.trans (hb.mono BE1.out.size))
      have R2 := Lib.hid hr
      clear hr hb
      go_wp2_with fail
      refine (HT1.out _ (R1.out)).mono ?_
      rintro e w3 ⟨uX, rfl, hr, hb⟩
      have R3 := Lib.hid (R1.out.keep hb)
      have R4 := Lib.hid (R2.out.keep hb)
      have BE3 := Lib.hid (BE2.out.trans (hb.mono BE2.out.size))
      have R5 := Lib.hid hr
      clear hr hb
      go_wp2_with fail
      refine (HI2.out _ (R3.out)).mono ?_
      rintro e w4 ⟨uC, rfl, hr, hb⟩
      have R6 := Lib.hid (R3.out.keep hb)
      have R7 := Lib.hid (R4.out.keep hb)
      have R8 := Lib.hid (R5.out.keep hb)
      have BE4 := Lib.hid (BE3.out.trans (hb.mono BE3.out.size))
      have R9 := Lib.hid hr
      clear hr hb
      go_wp2_with fail
      refine (HT2.out _ (R6.out)).mono ?_
      rintro e w5 ⟨uY, rfl, hr, hb⟩
      have R10 := Lib.hid (R6.out.keep hb)
      have R11 := Lib.hid (R7.out.keep hb)
      have R12 := Lib.hid (R8.out.keep hb)
      have R13 := Lib.hid (R9.out.keep hb)
      have BE5 := Lib.hid (BE4.out.trans (hb.mono BE4.out.size))
      have R14 := Lib.hid hr
      clear hr hb
      go_wp2_with fail
      refine (HI3.out _ (R10.out)).mono ?_
      rintro e w6 ⟨rfl, hb⟩
      have R15 := Lib.hid (R10.out.keep hb)
      have R16 := Lib.hid (R11.out.keep hb)
      have R17 := Lib.hid (R12.out.keep hb)
      have R18 := Lib.hid (R13.out.keep hb)
      have R19 := Lib.hid (R14.out.keep hb)
      have BE6 := Lib.hid (BE5.out.trans (hb.mono BE5.out.size))
      clear hb
      go_wp2_with fail
      refine (HT3.out _ (R15.out)).mono ?_
      rintro e w7 ⟨rfl, hb⟩
      have R20 := Lib.hid (R15.out.keep hb)
      have R21 := Lib.hid (R16.out.keep hb)
      have R22 := Lib.hid (R17.out.keep hb)
      have R23 := Lib.hid (R18.out.keep hb)
      have R24 := Lib.hid (R19.out.keep hb)
      have BE7 := Lib.hid (BE6.out.trans (hb.mono BE6.out.size))
      clear hb
      go_wp2_with fail
      refine (HI4.out _ (R20.out)).mono ?_
      rintro e w8 ⟨uL, rfl, hr, hb⟩
      have R25 := Lib.hid (R20.out.keep hb)
      have R26 := Lib.hid (R21.out.keep hb)
      have R27 := Lib.hid (R22.out.keep hb)
      have R28 := Lib.hid (R23.out.keep hb)
      have R29 := Lib.hid (R24.out.keep hb)
      have BE8 := Lib.hid (BE7.out.trans (hb.mono BE7.out.size))
      have R30 := Lib.hid hr
      clear hr hb
      go_wp2_with fail
      refine (HT4.out _ (R25.out)).mono ?_
      rintro e w9 ⟨uM, rfl, hr, hb⟩
      have R31 := Lib.hid (R25.out.keep hb)
      have R32 := Lib.hid (R26.out.keep hb)
      have R33 := Lib.hid (R27.out.keep hb)
      have R34 := Lib.hid (R28.out.keep hb)
      have R35 := Lib.hid (R29.out.keep hb)
      have R36 := Lib.hid (R30.out.keep hb)
      have BE9 := Lib.hid (BE8.out.trans (hb.mono BE8.out.size))
      have R37 := Lib.hid hr
      clear hr hb
      go_wp2_with fail
      refine (qSame_any _ _ Z _ R32.out.sl R33.out.sl (by have := HSL.out; omega)).mono ?_
      rintro e w10 ⟨rfl, hb⟩
      have R38 := Lib.hid (R31.out.keep hb)
      have R39 := Lib.hid (R32.out.keep hb)
      have R40 := Lib.hid (R33.out.keep hb)
      have R41 := Lib.hid (R34.out.keep hb)
      have R42 := Lib.hid (R35.out.keep hb)
      have R43 := Lib.hid (R36.out.keep hb)
      have R44 := Lib.hid (R37.out.keep hb)
      have BE10 := Lib.hid (BE9.out.trans (hb.mono BE9.out.size))
      clear hb
      go_wp2_with fail
      refine (qSame_any _ _ C _ R41.out.sl R42.out.sl (by have := HCL.out; omega)).mono ?_
      rintro e w11 ⟨rfl, hb⟩
      have R45 := Lib.hid (R38.out.keep hb)
      have R46 := Lib.hid (R39.out.keep hb)
      have R47 := Lib.hid (R40.out.keep hb)
      have R48 := Lib.hid (R41.out.keep hb)
      have R49 := Lib.hid (R42.out.keep hb)
      have R50 := Lib.hid (R43.out.keep hb)
      have R51 := Lib.hid (R44.out.keep hb)
      have BE11 := Lib.hid (BE10.out.trans (hb.mono BE10.out.size))
      clear hb
      go_wp2_with fail
      refine (qSame_any _ _ LD _ R50.out.sl R51.out.sl (by have := HDL.out; omega)).mono ?_
      rintro e w12 ⟨rfl, hb⟩
      have R52 := Lib.hid (R45.out.keep hb)
      have R53 := Lib.hid (R46.out.keep hb)
      have R54 := Lib.hid (R47.out.keep hb)
      have R55 := Lib.hid (R48.out.keep hb)
      have R56 := Lib.hid (R49.out.keep hb)
      have R57 := Lib.hid (R50.out.keep hb)
      have R58 := Lib.hid (R51.out.keep hb)
      have BE12 := Lib.hid (BE11.out.trans (hb.mono BE11.out.size))
      clear hb
      obtain ⟨gA, cA, hAe, hcA, hgA, hzA⟩ := slice_some R52.out hn1
      subst hAe
      obtain ⟨gC, cC, hCe, hcC, hgC, hzC⟩ := slice_some R55.out (by rw [HF.out.clen]; exact hn1)
      subst hCe
      obtain ⟨gS, cS, hSe, hcS, hgS, hzS⟩ := slice_some R53.out (by rw [HZL.out]; omega)
      subst hSe
      have HZA := Lib.hid hzA
      have HZC := Lib.hid hzC
      have HZS := Lib.hid hzS
      clear hzA hzC hzS
      obtain ⟨N, hN⟩ : ∃ N, N = ls.length := ⟨_, rfl⟩
      have HN := Lib.hid hN
      have hCN : C.length = N := by rw [hN, HF.out.clen]
      have hSN : Z.length = N + over := by rw [hN, HZL.out]
      obtain ⟨NS, hNS⟩ : ∃ NS, NS = N + over := ⟨_, rfl⟩
      rw [← hNS] at hSN
      have HNS := Lib.hid hNS
      have hsl : (N : Int) + (over : Int) = (NS : Int) := by omega
      clear hNS
      rw [hCN, hSN, ← hN]
      rw [← hN] at hn1 hcA
      rw [hCN] at hcC
      rw [hSN] at hcS
      have hN40 : N ≤ 41 := by rw [hN]; exact HLL.out
      clear hN
      have HCN := Lib.hid hCN
      have HSN := Lib.hid hSN
      clear hCN hSN
      have HSU := Lib.hid (qSum_any _ C _ R55.out.sl (by have := HCL.out; omega) (fun c hc => by have := HF.out.cin c hc; omega))
      obtain ⟨SC, hSC⟩ : ∃ SC, SC = C.sum := ⟨_, rfl⟩
      rw [← hSC] at HNC HSU
      clear hSC
      rw [HCN.out] at HSU
      go_wp2_with fail
      refine (HSU.out).mono ?_
      rintro e w13 ⟨rfl, hb⟩
      have R59 := Lib.hid (R52.out.keep hb)
      have R60 := Lib.hid (R53.out.keep hb)
      have R61 := Lib.hid (R55.out.keep hb)
      have BE13 := Lib.hid (BE12.out.trans (hb.mono BE12.out.size))
      clear hb
      obtain ⟨hsA, hnA, hpA⟩ | ⟨hsA, hnA, hpA⟩ : (SC = 0 ∧ nc = true ∧ palB Z = true) ∨ ((SC == 0) = false ∧ nc = false ∧ True) := by
        by_cases h : SC = 0
        · exact .inl ⟨h, HNC.out.trans (decide_eq_true h), HSY.out (HNC.out.trans (decide_eq_true h))⟩
        · exact .inr ⟨beq_no h, HNC.out.trans (decide_eq_false h), trivial⟩
      all_goals have HPA := Lib.hid hpA
      all_goals clear hpA
      all_goals
        subst hnA
        try subst hsA
        go_wp2_with fail
        refine (qBack_any (.slice (some ⟨gA, 0, none⟩) N cA) ls _ _ (by have h := R59.out; rw [← HN.out] at h; exact h) (by have := HLL.out; omega)).mono ?_
        rintro e w14 ⟨uK, rfl, hr, hb⟩
        have R62 := Lib.hid (R59.out.keep hb)
        have R63 := Lib.hid (R60.out.keep hb)
        have R64 := Lib.hid (R61.out.keep hb)
        have BE14 := Lib.hid (BE13.out.trans (hb.mono BE13.out.size))
        have R65 := Lib.hid hr
        clear hr hb
        try clear hsA
        obtain ⟨gK, cK, hKe, hcK, hgK, hzK⟩ := slice_some R65.out (by rw [List.length_reverse, ← HN.out]; exact hn1)
        subst hKe
        have HZK := Lib.hid hzK
        rw [List.length_reverse, ← HN.out] at hcK HZK ⊢
        clear hzK
        have zC := (R64.out.at.2.2.2.2.1 (N - 1) (by rw [HCN.out]; omega))
        have hlast := HF.out.last
        rw [← HN.out] at hlast
        have zC2 : w14.cell? ⟨gC, N - 1, none⟩ = some (.int .i64 (over : Int)) := by rw [zC, ← hlast, List.getD_eq_getElem?_getD, List.getElem?_eq_getElem (by rw [HCN.out]; omega)]; rfl
        clear zC hlast
        have hN1 : (1 : Int) ≤ (N : Int) := by omega
        skip
        skip
        skip
        go_wp2
        go_loopw [26, 27] (fun cr i wr => ∃ k : Nat, k ≤ N ∧ i = .int .i64 ((k : Int) - 1) ∧ cr = .int .i64 (crA C (N - k)) ∧ Below w14.heap.size w14 wr) (fun _ i _ => (intOf i + 1).toNat)
        case atStart => exact ⟨N, Nat.le_refl _, by first | rfl | go_num | (congr 1; omega), by rw [Nat.sub_self]; rfl, Below.refl _ _⟩
        case round =>
          obtain ⟨k, hk, rfl, rfl, hb⟩ := hrel
          have KB := Lib.hid hb
          clear hb
          by_cases hlt : 0 < k
          · obtain ⟨j, rfl⟩ : ∃ j, k = j + 1 := ⟨k - 1, by omega⟩
            have hjN : j < ls.length := by rw [← HN.out]; omega
            have hji : ((j + 1 : Nat) : Int) - 1 = (j : Int) := by omega
            rw [hji]
            have hPL := HF.out.place j hjN
            rw [← HN.out] at hPL
            obtain ⟨t, ht⟩ : ∃ t, t = over + j := ⟨_, rfl⟩
            obtain ⟨r, hr⟩ : ∃ r, r = N - 1 - j := ⟨_, rfl⟩
            rw [← ht, ← hr] at hPL
            have hbA := HDG.out.all _ (getD_memA hjN)
            have hbK := HDG.out.all _ (List.mem_reverse.1 (getD_memA (show j < ls.reverse.length by rw [List.length_reverse]; exact hjN)))
            have hbS := HF.out.zin _ (getD_memA (show t < Z.length by rw [HSN.out]; omega))
            have hbC := HF.out.cin _ (getD_memA (show r < C.length by rw [HCN.out]; omega))
            have hcr : 0 ≤ crA C r ∧ crA C r ≤ 1 := by
              unfold crA
              split
              · omega
              · exact HF.out.cin _ (getD_memA (by rw [HCN.out]; omega))
            skip
            have zA := (KB.out.cell (p := ⟨gA, j, none⟩) (R62.out.at.2.2.1)).trans (slice_cell R62.out hjN)
            have zK := (KB.out.cell (p := ⟨gK, j, none⟩) hgK).trans (HZK.out j (by omega))
            have zS := (KB.out.cell (p := ⟨gS, t, none⟩) (R63.out.at.2.2.1)).trans (slice_cell R63.out (show t < Z.length by rw [HSN.out]; omega))
            have zC := (KB.out.cell (p := ⟨gC, r, none⟩) (R64.out.at.2.2.1)).trans (slice_cell R64.out (show r < C.length by rw [HCN.out]; omega))
            have HNX := Lib.hid (show crA C (N - j) = C.getD r 0 by unfold crA; rw [if_neg (by omega), show N - j - 1 = r by omega])
            rw [show N - (j + 1) = r by omega]
            obtain ⟨x1, hx1⟩ : ∃ x1, x1 = ls.getD j 0 := ⟨_, rfl⟩
            obtain ⟨x2, hx2⟩ : ∃ x2, x2 = ls.reverse.getD j 0 := ⟨_, rfl⟩
            obtain ⟨x3, hx3⟩ : ∃ x3, x3 = Z.getD t 0 := ⟨_, rfl⟩
            obtain ⟨x4, hx4⟩ : ∃ x4, x4 = C.getD r 0 := ⟨_, rfl⟩
            obtain ⟨x5, hx5⟩ : ∃ x5, x5 = crA C r := ⟨_, rfl⟩
            rw [← hx1, ← hx2, ← hx3, ← hx4, ← hx5] at hPL
            rw [← hx1] at hbA zA
            rw [← hx2] at hbK zK
            rw [← hx3] at hbS zS
            rw [← hx4] at hbC zC HNX
            rw [← hx5] at hcr ⊢
            have hb16 := HDG.out.b16
            have hb2 := HDG.out.b2
            obtain ⟨P, hP⟩ : ∃ P, P = z * x4 := ⟨_, rfl⟩
            have hPb : 0 ≤ P ∧ P ≤ 16 := by
              rcases (show x4 = 0 ∨ x4 = 1 by omega) with h | h <;> rw [h] at hP <;> omega
            rw [← hP] at hPL
            have hrN : (r : Int) < (N : Int) := by omega
            have htN : (t : Int) < (NS : Int) := by omega
            have hj0 : (j : Int) < (N : Int) := by omega
            have hrN2 : r < N := by omega
            have htN2 : t < NS := by omega
            have q0 : (N : Int) - 1 - (j : Int) = (r : Int) := by omega
            have r0 : (over : Int) + (j : Int) = (t : Int) := by omega
            have hP2 : z * x4 = P := hP.symm
            have hb3 : -1000 ≤ x1 + x2 ∧ x1 + x2 ≤ 1000 := by omega
            have hb4 : -1000 ≤ x3 + P ∧ x3 + P ≤ 1000 := by omega
            clear hx1 hx2 hx3 hx4 hx5 hP ht hr
            go_wp2
            go_quiet (fail)
            skip
            go_wp2
            go_roundw
            case rel => exact ⟨j, by omega, by go_num, by rw [HNX.out], below_drewQ' KB.out _⟩
            case measure => simp [intOf]
          · obtain rfl : k = 0 := by omega
            have BEX := Lib.hid (BE14.out.trans (KB.out.mono BE14.out.size))
            have R66 := Lib.hid (R62.out.keep KB.out)
            have R67 := Lib.hid (R63.out.keep KB.out)
            have R68 := Lib.hid (R64.out.keep KB.out)
            have R69 := Lib.hid (R65.out.keep KB.out)
            have BE100 := BEX
            have HIS := Lib.hid (impl_IsSymmetric (.slice (some ⟨gS, 0, none⟩) NS cS) Z z _ _ (by have h := R67.out; rw [HSN.out] at h; exact h) (by have := HSL.out; omega))
            simp only [VAL_IsSymmetric] at HIS
            rw [HOS2.out, Bool.true_and] at HIS
            obtain ⟨pz, hpz⟩ : ∃ pz, pz = palB Z := ⟨_, rfl⟩
            rw [← hpz] at HIS
            try rw [← hpz] at HPA
            clear hpz
            go_wp2_with fail
            refine (HIS.out).mono ?_
            rintro e w101 ⟨rfl, hb⟩
            have R70 := Lib.hid (R66.out.keep hb)
            have R71 := Lib.hid (R67.out.keep hb)
            have R72 := Lib.hid (R68.out.keep hb)
            have R73 := Lib.hid (R69.out.keep hb)
            have BE101 := Lib.hid (BE100.out.trans (hb.mono BE100.out.size))
            clear hb
            have zL := slice_cell R70.out (show N - 1 < ls.length by rw [← HN.out]; omega)
            have HHD := Lib.hid (show ls.reverse.headD 0 = ls.getD (N - 1) 0 by rw [headD_getD, List.getD_eq_getElem?_getD, List.getD_eq_getElem?_getD, List.getElem?_reverse (by rw [← HN.out]; omega), ← HN.out, Nat.sub_zero])
            obtain ⟨xl, hxl⟩ : ∃ xl, xl = ls.getD (N - 1) 0 := ⟨_, rfl⟩
            rw [← hxl] at zL HHD
            clear hxl
            have hpA := HPA.out
            try subst hpA
            clear HPA
            by_cases hxl : 0 < xl
            · have HO := Lib.hid (HSB.out (by rw [HHD.out]; exact hxl))
              have HIA := Lib.hid (impl_AddReversed (.slice (some ⟨gK, 0, none⟩) N cK) ls.reverse z _ _ (by have h := R73.out; rw [List.length_reverse, ← HN.out] at h; exact h) (by rw [List.length_reverse]; have := HLL.out; omega))
              have eF : LF_AddReversed ls.reverse z = Z := by rw [show LF_AddReversed ls.reverse z = rvA z ls.reverse from if_pos HO.out, HRV.out]
              simp only [OK_AddReversed] at HIA
              rw [HO.out, eF] at HIA
              clear eF
              go_wp2_with fail
              refine (HIA.out).mono ?_
              rintro e w102 ⟨uO, rfl, hr, hb⟩
              have R74 := Lib.hid (R70.out.keep hb)
              have R75 := Lib.hid (R71.out.keep hb)
              have R76 := Lib.hid (R72.out.keep hb)
              have R77 := Lib.hid (R73.out.keep hb)
              have BE102 := Lib.hid (BE101.out.trans (hb.mono BE101.out.size))
              have R78 := Lib.hid hr
              clear hr hb
              clear zL
              go_wp2_with fail
              refine (qSame_any _ (.slice (some ⟨gS, 0, none⟩) NS cS) Z _ R78.out.sl (by have h := R75.out.sl; rw [HSN.out] at h; exact h) (by have := HSL.out; omega)).mono ?_
              rintro e w103 ⟨rfl, hb⟩
              have R79 := Lib.hid (R74.out.keep hb)
              have R80 := Lib.hid (R75.out.keep hb)
              have R81 := Lib.hid (R76.out.keep hb)
              have R82 := Lib.hid (R77.out.keep hb)
              have R83 := Lib.hid (R78.out.keep hb)
              have BE103 := Lib.hid (BE102.out.trans (hb.mono BE102.out.size))
              clear hb
              as_aux_lemma =>
                go_wp2_with fail
                refine (draw_IsSymmetric _ xs1 _ (HS1.out.keep BE103.out) HL1.out).mono ?_
                rintro e y1 ⟨q, ms, b2, rfl, hml, hr, hb⟩
                have BE104 := Lib.hid (BE103.out.trans (hb.mono BE103.out.size))
                have RQ := Lib.hid hr
                have HML := Lib.hid hml
                clear hb hr hml
                have HQ1 := Lib.hid (fun w h => impl_IsSymmetric q ms b2 W.heap.size w h (by have := HML.out; omega))
                have HQ2 := Lib.hid (fun w h => spec_IsSymmetric q ms b2 W.heap.size w h (by have := HML.out; omega))
                rcases Bool.eq_false_or_eq_true (okR b2 ms) with ho | ho
                · skip
                  simp only [VAL_IsSymmetric] at HQ1 HQ2
                  rw [ho, Bool.true_and] at HQ1 HQ2
                  have HP := Lib.hid (show decide (ms = ms.reverse) = palB ms from rfl)
                  obtain ⟨pb, hpb⟩ : ∃ pb, pb = palB ms := ⟨_, rfl⟩
                  rw [← hpb] at HQ1 HQ2 HP
                  clear hpb ho
                  go_wp2_with fail
                  refine (HQ1.out _ ((RQ.out).mono BE103.out.size)).mono ?_
                  rintro e w105 ⟨rfl, hb⟩
                  have R84 := Lib.hid (RQ.out.keep hb)
                  have BE105 := Lib.hid (BE104.out.trans (hb.mono BE104.out.size))
                  clear hb
                  go_wp2_with fail
                  refine (HQ2.out _ ((R84.out).mono BE103.out.size)).mono ?_
                  rintro e w106 ⟨rfl, hb⟩
                  have R85 := Lib.hid (R84.out.keep hb)
                  have BE106 := Lib.hid (BE105.out.trans (hb.mono BE105.out.size))
                  clear hb
                  go_wp2_with fail
                  refine (qBack_any _ ms _ _ R85.out (by have := HML.out; omega)).mono ?_
                  rintro e w107 ⟨uB, rfl, hr, hb⟩
                  have R86 := Lib.hid (R85.out.keep hb)
                  have BE107 := Lib.hid (BE106.out.trans (hb.mono BE106.out.size))
                  have R87 := Lib.hid hr
                  clear hr hb
                  go_wp2_with fail
                  refine (qSame_dec _ _ ms ms.reverse _ R86.out.sl R87.out.sl (by have := HML.out; omega) (by rw [List.length_reverse]; have := HML.out; omega)).mono ?_
                  rintro e y5 ⟨rfl, hb⟩
                  rw [HP.out]
                  have R88 := Lib.hid (R86.out.keep hb)
                  have R89 := Lib.hid (R87.out.keep hb)
                  have BE108 := Lib.hid (BE107.out.trans (hb.mono BE107.out.size))
                  clear hb
                  cases pb
                  all_goals
                    go_wp2
                    go_ret
                    exact ⟨rfl, BE108.out⟩
                · skip
                  simp only [VAL_IsSymmetric] at HQ1 HQ2
                  rw [ho, Bool.false_and] at HQ1 HQ2
                  clear ho
                  go_wp2_with fail
                  refine (HQ1.out _ ((RQ.out).mono BE103.out.size)).mono ?_
                  rintro e w105 ⟨rfl, hb⟩
                  have R84 := Lib.hid (RQ.out.keep hb)
                  have BE105 := Lib.hid (BE104.out.trans (hb.mono BE104.out.size))
                  clear hb
                  go_wp2_with fail
                  refine (HQ2.out _ ((R84.out).mono BE103.out.size)).mono ?_
                  rintro e w106 ⟨rfl, hb⟩
                  have R85 := Lib.hid (R84.out.keep hb)
                  have BE106 := Lib.hid (BE105.out.trans (hb.mono BE105.out.size))
                  clear hb
                  go_wp2
                  go_ret
                  exact ⟨rfl, BE106.out⟩
            · skip
              as_aux_lemma =>
                go_wp2_with fail
                refine (draw_IsSymmetric _ xs1 _ (HS1.out.keep BE101.out) HL1.out).mono ?_
                rintro e y1 ⟨q, ms, b2, rfl, hml, hr, hb⟩
                have BE102 := Lib.hid (BE101.out.trans (hb.mono BE101.out.size))
                have RQ := Lib.hid hr
                have HML := Lib.hid hml
                clear hb hr hml
                have HQ1 := Lib.hid (fun w h => impl_IsSymmetric q ms b2 W.heap.size w h (by have := HML.out; omega))
                have HQ2 := Lib.hid (fun w h => spec_IsSymmetric q ms b2 W.heap.size w h (by have := HML.out; omega))
                rcases Bool.eq_false_or_eq_true (okR b2 ms) with ho | ho
                · skip
                  simp only [VAL_IsSymmetric] at HQ1 HQ2
                  rw [ho, Bool.true_and] at HQ1 HQ2
                  have HP := Lib.hid (show decide (ms = ms.reverse) = palB ms from rfl)
                  obtain ⟨pb, hpb⟩ : ∃ pb, pb = palB ms := ⟨_, rfl⟩
                  rw [← hpb] at HQ1 HQ2 HP
                  clear hpb ho
                  go_wp2_with fail
                  refine (HQ1.out _ ((RQ.out).mono BE101.out.size)).mono ?_
                  rintro e w103 ⟨rfl, hb⟩
                  have R74 := Lib.hid (RQ.out.keep hb)
                  have BE103 := Lib.hid (BE102.out.trans (hb.mono BE102.out.size))
                  clear hb
                  go_wp2_with fail
                  refine (HQ2.out _ ((R74.out).mono BE101.out.size)).mono ?_
                  rintro e w104 ⟨rfl, hb⟩
                  have R75 := Lib.hid (R74.out.keep hb)
                  have BE104 := Lib.hid (BE103.out.trans (hb.mono BE103.out.size))
                  clear hb
                  go_wp2_with fail
                  refine (qBack_any _ ms _ _ R75.out (by have := HML.out; omega)).mono ?_
                  rintro e w105 ⟨uB, rfl, hr, hb⟩
                  have R76 := Lib.hid (R75.out.keep hb)
                  have BE105 := Lib.hid (BE104.out.trans (hb.mono BE104.out.size))
                  have R77 := Lib.hid hr
                  clear hr hb
                  go_wp2_with fail
                  refine (qSame_dec _ _ ms ms.reverse _ R76.out.sl R77.out.sl (by have := HML.out; omega) (by rw [List.length_reverse]; have := HML.out; omega)).mono ?_
                  rintro e y5 ⟨rfl, hb⟩
                  rw [HP.out]
                  have R78 := Lib.hid (R76.out.keep hb)
                  have R79 := Lib.hid (R77.out.keep hb)
                  have BE106 := Lib.hid (BE105.out.trans (hb.mono BE105.out.size))
                  clear hb
                  cases pb
                  all_goals
                    go_wp2
                    go_ret
                    exact ⟨rfl, BE106.out⟩
                · skip
                  simp only [VAL_IsSymmetric] at HQ1 HQ2
                  rw [ho, Bool.false_and] at HQ1 HQ2
                  clear ho
                  go_wp2_with fail
                  refine (HQ1.out _ ((RQ.out).mono BE101.out.size)).mono ?_
                  rintro e w103 ⟨rfl, hb⟩
                  have R74 := Lib.hid (RQ.out.keep hb)
                  have BE103 := Lib.hid (BE102.out.trans (hb.mono BE102.out.size))
                  clear hb
                  go_wp2_with fail
                  refine (HQ2.out _ ((R74.out).mono BE101.out.size)).mono ?_
                  rintro e w104 ⟨rfl, hb⟩
                  have R75 := Lib.hid (R74.out.keep hb)
                  have BE104 := Lib.hid (BE103.out.trans (hb.mono BE103.out.size))
                  clear hb
                  go_wp2
                  go_ret
                  exact ⟨rfl, BE104.out⟩
    · skip
      have eA : okA z ls = false := okA_long (by omega)
      have eS : LF_AddReversed ls z = [] := by show (if okA z ls = true then rvA z ls else []) = []; rw [eA]; rfl
      rw [eS, eA] at HI1 HT1
      have HSL := Lib.hid (show ([] : List Int).length ≤ 40 by simp)
      clear eA eS hAEq ho hA HOS HOR
      go_wp2_with fail
      refine (HI1.out _ (R0.out)).mono ?_
      rintro e w2 ⟨uS, rfl, hr, hb⟩
      have R1 := Lib.hid (R0.out.keep hb)
      have BE2 := Lib.hid (BE1.out.trans (hb.mono BE1.out.size))
      have R2 := Lib.hid hr
      clear hr hb
      go_wp2_with fail
      refine (HT1.out _ (R1.out)).mono ?_
      rintro e w3 ⟨uX, rfl, hr, hb⟩
      have R3 := Lib.hid (R1.out.keep hb)
      have R4 := Lib.hid (R2.out.keep hb)
      have BE3 := Lib.hid (BE2.out.trans (hb.mono BE2.out.size))
      have R5 := Lib.hid hr
      clear hr hb
      go_wp2_with fail
      refine (HI2.out _ (R3.out)).mono ?_
      rintro e w4 ⟨uC, rfl, hr, hb⟩
      have R6 := Lib.hid (R3.out.keep hb)
      have R7 := Lib.hid (R4.out.keep hb)
      have R8 := Lib.hid (R5.out.keep hb)
      have BE4 := Lib.hid (BE3.out.trans (hb.mono BE3.out.size))
      have R9 := Lib.hid hr
      clear hr hb
      go_wp2_with fail
      refine (HT2.out _ (R6.out)).mono ?_
      rintro e w5 ⟨uY, rfl, hr, hb⟩
      have R10 := Lib.hid (R6.out.keep hb)
      have R11 := Lib.hid (R7.out.keep hb)
      have R12 := Lib.hid (R8.out.keep hb)
      have R13 := Lib.hid (R9.out.keep hb)
      have BE5 := Lib.hid (BE4.out.trans (hb.mono BE4.out.size))
      have R14 := Lib.hid hr
      clear hr hb
      go_wp2_with fail
      refine (HI3.out _ (R10.out)).mono ?_
      rintro e w6 ⟨rfl, hb⟩
      have R15 := Lib.hid (R10.out.keep hb)
      have R16 := Lib.hid (R11.out.keep hb)
      have R17 := Lib.hid (R12.out.keep hb)
      have R18 := Lib.hid (R13.out.keep hb)
      have R19 := Lib.hid (R14.out.keep hb)
      have BE6 := Lib.hid (BE5.out.trans (hb.mono BE5.out.size))
      clear hb
      go_wp2_with fail
      refine (HT3.out _ (R15.out)).mono ?_
      rintro e w7 ⟨rfl, hb⟩
      have R20 := Lib.hid (R15.out.keep hb)
      have R21 := Lib.hid (R16.out.keep hb)
      have R22 := Lib.hid (R17.out.keep hb)
      have R23 := Lib.hid (R18.out.keep hb)
      have R24 := Lib.hid (R19.out.keep hb)
      have BE7 := Lib.hid (BE6.out.trans (hb.mono BE6.out.size))
      clear hb
      go_wp2_with fail
      refine (HI4.out _ (R20.out)).mono ?_
      rintro e w8 ⟨uL, rfl, hr, hb⟩
      have R25 := Lib.hid (R20.out.keep hb)
      have R26 := Lib.hid (R21.out.keep hb)
      have R27 := Lib.hid (R22.out.keep hb)
      have R28 := Lib.hid (R23.out.keep hb)
      have R29 := Lib.hid (R24.out.keep hb)
      have BE8 := Lib.hid (BE7.out.trans (hb.mono BE7.out.size))
      have R30 := Lib.hid hr
      clear hr hb
      go_wp2_with fail
      refine (HT4.out _ (R25.out)).mono ?_
      rintro e w9 ⟨uM, rfl, hr, hb⟩
      have R31 := Lib.hid (R25.out.keep hb)
      have R32 := Lib.hid (R26.out.keep hb)
      have R33 := Lib.hid (R27.out.keep hb)
      have R34 := Lib.hid (R28.out.keep hb)
      have R35 := Lib.hid (R29.out.keep hb)
      have R36 := Lib.hid (R30.out.keep hb)
      have BE9 := Lib.hid (BE8.out.trans (hb.mono BE8.out.size))
      have R37 := Lib.hid hr
      clear hr hb
      go_wp2_with fail
      refine (qSame_any _ _ [] _ R32.out.sl R33.out.sl (by have := HSL.out; omega)).mono ?_
      rintro e w10 ⟨rfl, hb⟩
      have R38 := Lib.hid (R31.out.keep hb)
      have R39 := Lib.hid (R32.out.keep hb)
      have R40 := Lib.hid (R33.out.keep hb)
      have R41 := Lib.hid (R34.out.keep hb)
      have R42 := Lib.hid (R35.out.keep hb)
      have R43 := Lib.hid (R36.out.keep hb)
      have R44 := Lib.hid (R37.out.keep hb)
      have BE10 := Lib.hid (BE9.out.trans (hb.mono BE9.out.size))
      clear hb
      go_wp2_with fail
      refine (qSame_any _ _ C _ R41.out.sl R42.out.sl (by have := HCL.out; omega)).mono ?_
      rintro e w11 ⟨rfl, hb⟩
      have R45 := Lib.hid (R38.out.keep hb)
      have R46 := Lib.hid (R39.out.keep hb)
      have R47 := Lib.hid (R40.out.keep hb)
      have R48 := Lib.hid (R41.out.keep hb)
      have R49 := Lib.hid (R42.out.keep hb)
      have R50 := Lib.hid (R43.out.keep hb)
      have R51 := Lib.hid (R44.out.keep hb)
      have BE11 := Lib.hid (BE10.out.trans (hb.mono BE10.out.size))
      clear hb
      go_wp2_with fail
      refine (qSame_any _ _ LD _ R50.out.sl R51.out.sl (by have := HDL.out; omega)).mono ?_
      rintro e w12 ⟨rfl, hb⟩
      have R52 := Lib.hid (R45.out.keep hb)
      have R53 := Lib.hid (R46.out.keep hb)
      have R54 := Lib.hid (R47.out.keep hb)
      have R55 := Lib.hid (R48.out.keep hb)
      have R56 := Lib.hid (R49.out.keep hb)
      have R57 := Lib.hid (R50.out.keep hb)
      have R58 := Lib.hid (R51.out.keep hb)
      have BE12 := Lib.hid (BE11.out.trans (hb.mono BE11.out.size))
      clear hb
      obtain ⟨gA, cA, hAe, hcA, hgA, hzA⟩ := slice_some R52.out hn1
      subst hAe
      obtain ⟨gC, cC, hCe, hcC, hgC, hzC⟩ := slice_some R55.out (by rw [HF.out.clen]; exact hn1)
      subst hCe
      clear hzA hzC
      obtain ⟨N, hN⟩ : ∃ N, N = ls.length := ⟨_, rfl⟩
      have HN := Lib.hid hN
      have hCN : C.length = N := by rw [hN, HF.out.clen]
      rw [hCN, ← hN]
      have HCN := Lib.hid hCN
      clear hCN hN
      have HSU := Lib.hid (qSum_any _ C _ R55.out.sl (by have := HCL.out; omega) (fun c hc => by have := HF.out.cin c hc; omega))
      obtain ⟨SC, hSC⟩ : ∃ SC, SC = C.sum := ⟨_, rfl⟩
      rw [← hSC] at HNC HSU
      clear hSC
      rw [HCN.out] at HSU
      go_wp2_with fail
      refine (HSU.out).mono ?_
      rintro e w13 ⟨rfl, hb⟩
      have R59 := Lib.hid (R52.out.keep hb)
      have R60 := Lib.hid (R53.out.keep hb)
      have R61 := Lib.hid (R55.out.keep hb)
      have BE13 := Lib.hid (BE12.out.trans (hb.mono BE12.out.size))
      clear hb
      obtain ⟨hsA, hnA⟩ | ⟨hsA, hnA⟩ : (SC = 0 ∧ nc = true) ∨ ((SC == 0) = false ∧ nc = false) := by
        rw [HNC.out]
        by_cases h : SC = 0
        · exact .inl ⟨h, decide_eq_true h⟩
        · exact .inr ⟨beq_no h, decide_eq_false h⟩
      all_goals
        subst hnA
        try subst hsA
        go_wp2_with fail
        refine (qBack_any (.slice (some ⟨gA, 0, none⟩) N cA) ls _ _ (by have h := R59.out; rw [← HN.out] at h; exact h) (by have := HLL.out; omega)).mono ?_
        rintro e w14 ⟨uK, rfl, hr, hb⟩
        have R62 := Lib.hid (R59.out.keep hb)
        have R63 := Lib.hid (R60.out.keep hb)
        have R64 := Lib.hid (R61.out.keep hb)
        have BE14 := Lib.hid (BE13.out.trans (hb.mono BE13.out.size))
        have R65 := Lib.hid hr
        clear hr hb
        try clear hsA
        as_aux_lemma =>
          go_wp2_with fail
          refine (draw_IsSymmetric _ xs1 _ (HS1.out.keep BE14.out) HL1.out).mono ?_
          rintro e y1 ⟨q, ms, b2, rfl, hml, hr, hb⟩
          have BE15 := Lib.hid (BE14.out.trans (hb.mono BE14.out.size))
          have RQ := Lib.hid hr
          have HML := Lib.hid hml
          clear hb hr hml
          have HQ1 := Lib.hid (fun w h => impl_IsSymmetric q ms b2 W.heap.size w h (by have := HML.out; omega))
          have HQ2 := Lib.hid (fun w h => spec_IsSymmetric q ms b2 W.heap.size w h (by have := HML.out; omega))
          rcases Bool.eq_false_or_eq_true (okR b2 ms) with ho | ho
          · skip
            simp only [VAL_IsSymmetric] at HQ1 HQ2
            rw [ho, Bool.true_and] at HQ1 HQ2
            have HP := Lib.hid (show decide (ms = ms.reverse) = palB ms from rfl)
            obtain ⟨pb, hpb⟩ : ∃ pb, pb = palB ms := ⟨_, rfl⟩
            rw [← hpb] at HQ1 HQ2 HP
            clear hpb ho
            go_wp2_with fail
            refine (HQ1.out _ ((RQ.out).mono BE14.out.size)).mono ?_
            rintro e w16 ⟨rfl, hb⟩
            have R66 := Lib.hid (RQ.out.keep hb)
            have BE16 := Lib.hid (BE15.out.trans (hb.mono BE15.out.size))
            clear hb
            go_wp2_with fail
            refine (HQ2.out _ ((R66.out).mono BE14.out.size)).mono ?_
            rintro e w17 ⟨rfl, hb⟩
            have R67 := Lib.hid (R66.out.keep hb)
            have BE17 := Lib.hid (BE16.out.trans (hb.mono BE16.out.size))
            clear hb
            go_wp2_with fail
            refine (qBack_any _ ms _ _ R67.out (by have := HML.out; omega)).mono ?_
            rintro e w18 ⟨uB, rfl, hr, hb⟩
            have R68 := Lib.hid (R67.out.keep hb)
            have BE18 := Lib.hid (BE17.out.trans (hb.mono BE17.out.size))
            have R69 := Lib.hid hr
            clear hr hb
            go_wp2_with fail
            refine (qSame_dec _ _ ms ms.reverse _ R68.out.sl R69.out.sl (by have := HML.out; omega) (by rw [List.length_reverse]; have := HML.out; omega)).mono ?_
            rintro e y5 ⟨rfl, hb⟩
            rw [HP.out]
            have R70 := Lib.hid (R68.out.keep hb)
            have R71 := Lib.hid (R69.out.keep hb)
            have BE19 := Lib.hid (BE18.out.trans (hb.mono BE18.out.size))
            clear hb
            cases pb
            all_goals
              go_wp2
              go_ret
              exact ⟨rfl, BE19.out⟩
          · skip
            simp only [VAL_IsSymmetric] at HQ1 HQ2
            rw [ho, Bool.false_and] at HQ1 HQ2
            clear ho
            go_wp2_with fail
            refine (HQ1.out _ ((RQ.out).mono BE14.out.size)).mono ?_
            rintro e w16 ⟨rfl, hb⟩
            have R66 := Lib.hid (RQ.out.keep hb)
            have BE16 := Lib.hid (BE15.out.trans (hb.mono BE15.out.size))
            clear hb
            go_wp2_with fail
            refine (HQ2.out _ ((R66.out).mono BE14.out.size)).mono ?_
            rintro e w17 ⟨rfl, hb⟩
            have R67 := Lib.hid (R66.out.keep hb)
            have BE17 := Lib.hid (BE16.out.trans (hb.mono BE16.out.size))
            clear hb
            go_wp2
            go_ret
            exact ⟨rfl, BE17.out⟩
  · skip
    have eC : LF_CarriesOf ls z = [] := by show (if okR z ls = true then _ else []) = _; rw [ho]; rfl
    have eA : okA z ls = false := okA_no ho
    have eS : LF_AddReversed ls z = [] := by show (if okA z ls = true then rvA z ls else []) = []; rw [eA]; rfl
    rw [eS, eA] at HI1 HT1
    rw [eC, ho] at HI2 HT2
    rw [ho, Bool.false_and] at HI3 HT3
    rw [ho] at HI4 HT4
    have HSL := Lib.hid (show ([] : List Int).length ≤ 40 by simp)
    have HCL := Lib.hid (show ([] : List Int).length ≤ 40 by simp)
    clear eA eS eC ho
    go_wp2_with fail
    refine (HI1.out _ (R0.out)).mono ?_
    rintro e w2 ⟨uS, rfl, hr, hb⟩
    have R1 := Lib.hid (R0.out.keep hb)
    have BE2 := Lib.hid (BE1.out.trans (hb.mono BE1.out.size))
    have R2 := Lib.hid hr
    clear hr hb
    go_wp2_with fail
    refine (HT1.out _ (R1.out)).mono ?_
    rintro e w3 ⟨uX, rfl, hr, hb⟩
    have R3 := Lib.hid (R1.out.keep hb)
    have R4 := Lib.hid (R2.out.keep hb)
    have BE3 := Lib.hid (BE2.out.trans (hb.mono BE2.out.size))
    have R5 := Lib.hid hr
    clear hr hb
    go_wp2_with fail
    refine (HI2.out _ (R3.out)).mono ?_
    rintro e w4 ⟨uC, rfl, hr, hb⟩
    have R6 := Lib.hid (R3.out.keep hb)
    have R7 := Lib.hid (R4.out.keep hb)
    have R8 := Lib.hid (R5.out.keep hb)
    have BE4 := Lib.hid (BE3.out.trans (hb.mono BE3.out.size))
    have R9 := Lib.hid hr
    clear hr hb
    go_wp2_with fail
    refine (HT2.out _ (R6.out)).mono ?_
    rintro e w5 ⟨uY, rfl, hr, hb⟩
    have R10 := Lib.hid (R6.out.keep hb)
    have R11 := Lib.hid (R7.out.keep hb)
    have R12 := Lib.hid (R8.out.keep hb)
    have R13 := Lib.hid (R9.out.keep hb)
    have BE5 := Lib.hid (BE4.out.trans (hb.mono BE4.out.size))
    have R14 := Lib.hid hr
    clear hr hb
    go_wp2_with fail
    refine (HI3.out _ (R10.out)).mono ?_
    rintro e w6 ⟨rfl, hb⟩
    have R15 := Lib.hid (R10.out.keep hb)
    have R16 := Lib.hid (R11.out.keep hb)
    have R17 := Lib.hid (R12.out.keep hb)
    have R18 := Lib.hid (R13.out.keep hb)
    have R19 := Lib.hid (R14.out.keep hb)
    have BE6 := Lib.hid (BE5.out.trans (hb.mono BE5.out.size))
    clear hb
    go_wp2_with fail
    refine (HT3.out _ (R15.out)).mono ?_
    rintro e w7 ⟨rfl, hb⟩
    have R20 := Lib.hid (R15.out.keep hb)
    have R21 := Lib.hid (R16.out.keep hb)
    have R22 := Lib.hid (R17.out.keep hb)
    have R23 := Lib.hid (R18.out.keep hb)
    have R24 := Lib.hid (R19.out.keep hb)
    have BE7 := Lib.hid (BE6.out.trans (hb.mono BE6.out.size))
    clear hb
    go_wp2_with fail
    refine (HI4.out _ (R20.out)).mono ?_
    rintro e w8 ⟨uL, rfl, hr, hb⟩
    have R25 := Lib.hid (R20.out.keep hb)
    have R26 := Lib.hid (R21.out.keep hb)
    have R27 := Lib.hid (R22.out.keep hb)
    have R28 := Lib.hid (R23.out.keep hb)
    have R29 := Lib.hid (R24.out.keep hb)
    have BE8 := Lib.hid (BE7.out.trans (hb.mono BE7.out.size))
    have R30 := Lib.hid hr
    clear hr hb
    go_wp2_with fail
    refine (HT4.out _ (R25.out)).mono ?_
    rintro e w9 ⟨uM, rfl, hr, hb⟩
    have R31 := Lib.hid (R25.out.keep hb)
    have R32 := Lib.hid (R26.out.keep hb)
    have R33 := Lib.hid (R27.out.keep hb)
    have R34 := Lib.hid (R28.out.keep hb)
    have R35 := Lib.hid (R29.out.keep hb)
    have R36 := Lib.hid (R30.out.keep hb)
    have BE9 := Lib.hid (BE8.out.trans (hb.mono BE8.out.size))
    have R37 := Lib.hid hr
    clear hr hb
    go_wp2_with fail
    refine (qSame_any _ _ [] _ R32.out.sl R33.out.sl (by have := HSL.out; omega)).mono ?_
    rintro e w10 ⟨rfl, hb⟩
    have R38 := Lib.hid (R31.out.keep hb)
    have R39 := Lib.hid (R32.out.keep hb)
    have R40 := Lib.hid (R33.out.keep hb)
    have R41 := Lib.hid (R34.out.keep hb)
    have R42 := Lib.hid (R35.out.keep hb)
    have R43 := Lib.hid (R36.out.keep hb)
    have R44 := Lib.hid (R37.out.keep hb)
    have BE10 := Lib.hid (BE9.out.trans (hb.mono BE9.out.size))
    clear hb
    go_wp2_with fail
    refine (qSame_any _ _ [] _ R41.out.sl R42.out.sl (by have := HCL.out; omega)).mono ?_
    rintro e w11 ⟨rfl, hb⟩
    have R45 := Lib.hid (R38.out.keep hb)
    have R46 := Lib.hid (R39.out.keep hb)
    have R47 := Lib.hid (R40.out.keep hb)
    have R48 := Lib.hid (R41.out.keep hb)
    have R49 := Lib.hid (R42.out.keep hb)
    have R50 := Lib.hid (R43.out.keep hb)
    have R51 := Lib.hid (R44.out.keep hb)
    have BE11 := Lib.hid (BE10.out.trans (hb.mono BE10.out.size))
    clear hb
    go_wp2_with fail
    refine (qSame_any _ _ LD _ R50.out.sl R51.out.sl (by have := HDL.out; omega)).mono ?_
    rintro e w12 ⟨rfl, hb⟩
    have R52 := Lib.hid (R45.out.keep hb)
    have R53 := Lib.hid (R46.out.keep hb)
    have R54 := Lib.hid (R47.out.keep hb)
    have R55 := Lib.hid (R48.out.keep hb)
    have R56 := Lib.hid (R49.out.keep hb)
    have R57 := Lib.hid (R50.out.keep hb)
    have R58 := Lib.hid (R51.out.keep hb)
    have BE12 := Lib.hid (BE11.out.trans (hb.mono BE11.out.size))
    clear hb
    as_aux_lemma =>
      go_wp2_with fail
      refine (draw_IsSymmetric _ xs1 _ (HS1.out.keep BE12.out) HL1.out).mono ?_
      rintro e y1 ⟨q, ms, b2, rfl, hml, hr, hb⟩
      have BE13 := Lib.hid (BE12.out.trans (hb.mono BE12.out.size))
      have RQ := Lib.hid hr
      have HML := Lib.hid hml
      clear hb hr hml
      have HQ1 := Lib.hid (fun w h => impl_IsSymmetric q ms b2 W.heap.size w h (by have := HML.out; omega))
      have HQ2 := Lib.hid (fun w h => spec_IsSymmetric q ms b2 W.heap.size w h (by have := HML.out; omega))
      rcases Bool.eq_false_or_eq_true (okR b2 ms) with ho | ho
      · skip
        simp only [VAL_IsSymmetric] at HQ1 HQ2
        rw [ho, Bool.true_and] at HQ1 HQ2
        have HP := Lib.hid (show decide (ms = ms.reverse) = palB ms from rfl)
        obtain ⟨pb, hpb⟩ : ∃ pb, pb = palB ms := ⟨_, rfl⟩
        rw [← hpb] at HQ1 HQ2 HP
        clear hpb ho
        go_wp2_with fail
        refine (HQ1.out _ ((RQ.out).mono BE12.out.size)).mono ?_
        rintro e w14 ⟨rfl, hb⟩
        have R59 := Lib.hid (RQ.out.keep hb)
        have BE14 := Lib.hid (BE13.out.trans (hb.mono BE13.out.size))
        clear hb
        go_wp2_with fail
        refine (HQ2.out _ ((R59.out).mono BE12.out.size)).mono ?_
        rintro e w15 ⟨rfl, hb⟩
        have R60 := Lib.hid (R59.out.keep hb)
        have BE15 := Lib.hid (BE14.out.trans (hb.mono BE14.out.size))
        clear hb
        go_wp2_with fail
        refine (qBack_any _ ms _ _ R60.out (by have := HML.out; omega)).mono ?_
        rintro e w16 ⟨uB, rfl, hr, hb⟩
        have R61 := Lib.hid (R60.out.keep hb)
        have BE16 := Lib.hid (BE15.out.trans (hb.mono BE15.out.size))
        have R62 := Lib.hid hr
        clear hr hb
        go_wp2_with fail
        refine (qSame_dec _ _ ms ms.reverse _ R61.out.sl R62.out.sl (by have := HML.out; omega) (by rw [List.length_reverse]; have := HML.out; omega)).mono ?_
        rintro e y5 ⟨rfl, hb⟩
        rw [HP.out]
        have R63 := Lib.hid (R61.out.keep hb)
        have R64 := Lib.hid (R62.out.keep hb)
        have BE17 := Lib.hid (BE16.out.trans (hb.mono BE16.out.size))
        clear hb
        cases pb
        all_goals
          go_wp2
          go_ret
          exact ⟨rfl, BE17.out⟩
      · skip
        simp only [VAL_IsSymmetric] at HQ1 HQ2
        rw [ho, Bool.false_and] at HQ1 HQ2
        clear ho
        go_wp2_with fail
        refine (HQ1.out _ ((RQ.out).mono BE12.out.size)).mono ?_
        rintro e w14 ⟨rfl, hb⟩
        have R59 := Lib.hid (RQ.out.keep hb)
        have BE14 := Lib.hid (BE13.out.trans (hb.mono BE13.out.size))
        clear hb
        go_wp2_with fail
        refine (HQ2.out _ ((R59.out).mono BE12.out.size)).mono ?_
        rintro e w15 ⟨rfl, hb⟩
        have R60 := Lib.hid (R59.out.keep hb)
        have BE15 := Lib.hid (BE14.out.trans (hb.mono BE14.out.size))
        clear hb
        go_wp2
        go_ret
        exact ⟨rfl, BE15.out⟩

end Go.Proofs.Ytnggfcopndcppaa
