/-
  The law of cyclic numbers (written by wip/tools/gen_4d.py).
-/
import Derived.Test.Ytgiabadkbfbilab4C
import Derived.Test.Ytgiabadkbfbilab4H
import Derived.Test.Ytgiabadkbfbilab0D
import Derived.Deep.QuietTactic
import Derived.BigQuiet
namespace Go.Proofs.Ytgiabadkbfbilab
open Go.RowKit
set_option linter.unusedVariables false
set_option linter.unusedSimpArgs false
set_option maxRecDepth 100000

theorem below_drewC {B : Nat} {a w : World} (h : Below B a w) (n : Nat) : Below B a (w.drewN n) := ⟨h.1, h.2, h.3, h.4, h.5⟩

/-- A guard that says yes may be left out. -/
theorem wpList_strip {P : Program} {ops : Array Oper} {Q : Exit → Act → World → Prop} {a : Act} {w : World} {rest : List Oper} {o : Oper} (hw : Region.wanted o (yielded ops a.tmps) = true)
    (h : wpList P ops Q ({ o with guard := none } :: rest) a w) : wpList P ops Q (o :: rest) a w := by
  unfold wpList at h ⊢
  rw [if_pos hw]
  rw [if_pos (by simp [Region.wanted])] at h
  exact h

set_option maxHeartbeats 20000000 in
theorem law_CyclicNumbers {W : World} (v0 : Value) (xs0 : List Int) (hs0 : Sb W v0 xs0) (v1 : Value) (xs1 : List Int) (hs1 : Sb W v1 xs1) :
    Calls Try.prog 3 #[v0, v1] W fun e w' => e = .returned (.bool true) ∧ Below W.heap.size W w' := by
  obtain ⟨a0, k0, rfl⟩ := hs0.len
  obtain ⟨a1, k1, rfl⟩ := hs1.len
  have HS0 := Lib.hid hs0
  have HS1 := Lib.hid hs1
  have HB := Lib.hid (big_any a0 a1 xs0.length xs1.length k0 k1 W)
  clear hs0 hs1
  by_cases hbig : 1048576 < xs0.length ∨ 1048576 < xs0.length + xs1.length
  · rw [decide_eq_true hbig] at HB
    go_enter Try.func3, Try.ntmps3
    go_wp2_with (go_at_call 6; refine HB.out.mono ?_; rintro e w ⟨rfl, rfl⟩)
    go_ret
    exact ⟨rfl, Below.refl _ _⟩
  rw [decide_eq_false hbig] at HB
  have hl0 : xs0.length ≤ 1048576 := by omega
  have hl1 : xs1.length ≤ 1048576 := by omega
  have HL1 := Lib.hid hl1
  clear hbig
  go_enter Try.func3, Try.ntmps3
  go_wp2_with fail
  refine HB.out.mono ?_
  rintro e w ⟨rfl, rfl⟩
  go_wp2_with fail
  refine (draw_HalvesOf _ xs0 _ HS0.out hl0).mono ?_
  rintro e w1 ⟨a, p, b, rfl, hb⟩
  have BE1 := Lib.hid hb
  clear hb hl0 hl1
  have HI1 := Lib.hid (fun w => impl_HalvesOf a p b w)
  have HT1 := Lib.hid (fun w => spec_HalvesOf a p b w)
  have HLN := Lib.hid (L_HalvesOf_len a p b)
  unfold Two9 at HI1 HT1
  by_cases hF : Hal a p b
  · skip
    obtain ⟨hfr, ha0, hpr, hbp, hle, hev⟩ := id hF
    obtain ⟨A, P, B, rfl, rfl, rfl, hP0, hP2, hB0, hB16, hAP, hB2⟩ := hfr.nats
    have hle2 : pA A P B ≤ 400 := hle
    have hev2 : pA A P B % 2 = 0 := hev
    have hpp : 2 ≤ P := by
      by_cases h1 : P = 1
      · subst h1; omega
      · omega
    have hal := hal_facts hB2 hB16 hpr hpp hAP (by omega) (by omega) hev2
    have hpb := per_bd (a := A) hB0 hP0 hAP
    have e1 : OK_HalvesOf (A : Int) (P : Int) (B : Int) = true := decide_eq_true hF
    have e2 : LA_HalvesOf (A : Int) (P : Int) (B : Int) = (rpt A P B).take (pA A P B / 2) := by unfold LA_HalvesOf; rw [if_pos hF]; rfl
    have e3 : LB_HalvesOf (A : Int) (P : Int) (B : Int) = (rpt A P B).drop (pA A P B / 2) := by unfold LB_HalvesOf; rw [if_pos hF]; rfl
    have eO : OK_RepetendOf (A : Int) (P : Int) (B : Int) = true := decide_eq_true ⟨hfr, hle⟩
    have eL : LF_RepetendOf (A : Int) (P : Int) (B : Int) = rpt A P B := by unfold LF_RepetendOf; rw [if_pos ⟨hfr, hle⟩]; rfl
    have HRE := Lib.hid (fun w => impl_RepetendOf (A : Int) (P : Int) (B : Int) w)
    rw [e1, e2, e3] at HI1 HT1
    rw [eO, eL] at HRE
    have hrl := rpt_len A P B
    have HSM := Lib.hid hal.sum
    have hper := hal.per
    obtain ⟨hh, hhh⟩ : ∃ hh, hh = pA A P B / 2 := ⟨_, rfl⟩
    rw [← hhh] at HI1 HT1 HSM hper
    rw [hper] at hrl
    have hh1 : 1 ≤ hh := by omega
    have hh2 : hh ≤ 200 := by omega
    obtain ⟨RP, hRP⟩ : ∃ RP, RP = rpt A P B := ⟨_, rfl⟩
    rw [← hRP] at HI1 HT1 HSM HRE hrl
    obtain ⟨LA, hLA⟩ : ∃ LA, LA = RP.take hh := ⟨_, rfl⟩
    obtain ⟨LB, hLB⟩ : ∃ LB, LB = RP.drop hh := ⟨_, rfl⟩
    rw [← hLA, ← hLB] at HI1 HT1
    have hla : LA.length = hh := by rw [hLA, List.length_take]; omega
    have hlb : LB.length = hh := by rw [hLB, List.length_drop]; omega
    have HJO := Lib.hid (show LA ++ LB = RP by rw [hLA, hLB, List.take_append_drop])
    have HSA := Lib.hid (show ∀ i, i < hh → LA.getD i 0 = RP.getD i 0 from fun i hi => by rw [hLA, List.getD_eq_getElem?_getD, List.getElem?_take_of_lt hi, ← List.getD_eq_getElem?_getD])
    have HSB := Lib.hid (show ∀ i, i < hh → LB.getD i 0 = RP.getD (hh + i) 0 from fun i hi => by rw [hLB, List.getD_eq_getElem?_getD, List.getElem?_drop, ← List.getD_eq_getElem?_getD])
    have HRL := Lib.hid hrl
    clear hF hfr ha0 hpr hbp hle hev hle2 hev2 hal hpb e1 e2 e3 eO eL hper hhh hRP hLA hLB hrl HLN
    go_wp2_with fail
    refine (HI1.out _).mono ?_
    rintro e w2 ⟨uL, uR, rfl, hr1, hr2, _, hb⟩
    have BE2 := Lib.hid (BE1.out.trans (hb.mono BE1.out.size))
    have R1 := Lib.hid hr1
    have R2 := Lib.hid hr2
    clear hr1 hr2 hb
    go_wp2_with fail
    refine (HT1.out _).mono ?_
    rintro e w3 ⟨uX, uY, rfl, hr1, hr2, _, hb⟩
    have R3 := Lib.hid (R1.out.keep hb)
    have R4 := Lib.hid (R2.out.keep hb)
    have BE3 := Lib.hid (BE2.out.trans (hb.mono BE2.out.size))
    have R5 := Lib.hid hr1
    have R6 := Lib.hid hr2
    clear hr1 hr2 hb
    go_wp2_with fail
    refine (qSame_any _ _ LA _ R3.out.sl R5.out.sl (by rw [hla]; omega)).mono ?_
    rintro e w4 ⟨rfl, hb⟩
    have R7 := Lib.hid (R3.out.keep hb)
    have R8 := Lib.hid (R4.out.keep hb)
    have R9 := Lib.hid (R5.out.keep hb)
    have R10 := Lib.hid (R6.out.keep hb)
    have BE4 := Lib.hid (BE3.out.trans (hb.mono BE3.out.size))
    clear hb
    go_wp2_with fail
    refine (qSame_any _ _ LB _ R8.out.sl R10.out.sl (by rw [hlb]; omega)).mono ?_
    rintro e w5 ⟨rfl, hb⟩
    have R11 := Lib.hid (R7.out.keep hb)
    have R12 := Lib.hid (R8.out.keep hb)
    have R13 := Lib.hid (R9.out.keep hb)
    have R14 := Lib.hid (R10.out.keep hb)
    have BE5 := Lib.hid (BE4.out.trans (hb.mono BE4.out.size))
    clear hb
    go_wp2_with fail
    refine (HRE.out _).mono ?_
    rintro e w6 ⟨uW, rfl, hr, hb⟩
    have R15 := Lib.hid (R11.out.keep hb)
    have R16 := Lib.hid (R12.out.keep hb)
    have BE6 := Lib.hid (BE5.out.trans (hb.mono BE5.out.size))
    have R17 := Lib.hid hr
    clear hr hb
    obtain ⟨gL, oL, cL, hLe, hgL, hzL⟩ := sl_lies R15.out.sl (by rw [hla]; omega)
    obtain ⟨gR, oR, cR, hRe, hgR, hzR⟩ := sl_lies R16.out.sl (by rw [hlb]; omega)
    subst hLe
    subst hRe
    have HZL := Lib.hid (fun j (hj : j < hh) => (hzL j (by rw [hla]; exact hj)).trans (by rw [HSA.out j hj]))
    have HZR := Lib.hid (fun j (hj : j < hh) => (hzR j (by rw [hlb]; exact hj)).trans (by rw [HSB.out j hj]))
    have RL := R15.out
    have RR := R16.out
    rw [hla] at RL
    rw [hlb] at RR
    rw [hla, hlb]
    have HLA := Lib.hid hla
    have HLB := Lib.hid hlb
    have HRA := Lib.hid RL
    have HRB := Lib.hid RR
    clear hzL hzR hla hlb RL RR
    go_wp2_with (first | (at_builtin; refine wpList_strip rfl ?_; refine wpList_appR rfl (.tmp 103) (.tmp 104) rfl w6.heap.size _ _ _ [] LA rfl rfl (rd_noneC _ _ (Nat.le_refl _)) (HRA.out.alloc _) (by have := HLA.out; simp; omega) (by simp) ?_; intro v1 x1 hr1 hg1 hb1; have RV1 := Lib.hid hr1; have KV1 := Lib.hid (((Below.refl w6.heap.size w6).alloc (Nat.le_refl _) _).trans hb1); clear hr1 hg1 hb1) | (at_builtin; refine wpList_strip rfl ?_; refine wpList_appR rfl (.tmp 105) (.tmp 106) rfl w6.heap.size _ _ _ ([] ++ LA) LB rfl rfl RV1.out (HRB.out.keep KV1.out) (by have := HLA.out; have := HLB.out; simp; omega) (KV1.out.size) ?_; intro v2 x2 hr2 hg2 hb2; have RV2 := Lib.hid hr2; have KV2 := Lib.hid (KV1.out.trans hb2); clear hr2 hg2 hb2))
    rw [List.nil_append, HJO.out] at RV2
    have RW2 := Lib.hid (R17.out.keep KV2.out)
    have BE7 := Lib.hid (BE6.out.trans (KV2.out.mono BE6.out.size))
    go_wp2_with fail
    refine (qSame_any _ _ RP _ RW2.out.sl RV2.out.sl (by rw [HRL.out]; omega)).mono ?_
    rintro e w8 ⟨rfl, hb⟩
    have KWH := Lib.hid (KV2.out.trans (hb.mono KV2.out.size))
    have BE8 := Lib.hid (BE7.out.trans (hb.mono BE7.out.size))
    clear hb
    skip
    go_wp2
    go_loopw [113] (fun i wr => ∃ j : Nat, j ≤ hh ∧ i = .int .i64 (j : Int) ∧ Below w8.heap.size w8 wr) (fun i _ => hh - (intOf i).toNat)
    case atStart => exact ⟨0, Nat.zero_le _, rfl, Below.refl _ _⟩
    case round =>
      obtain ⟨j, hj, rfl, hb⟩ := hrel
      have KB := Lib.hid hb
      clear hb
      by_cases hlt : j < hh
      · have hji : (j : Int) < (hh : Int) := by omega
        obtain ⟨x, y, hx, hy, hxy, hx16, hy16⟩ := HSM.out j hlt
        have KWB := Lib.hid (KWH.out.trans (KB.out.mono KWH.out.size))
        have zl := (KWB.out.cell (p := ⟨gL, oL + j, none⟩) hgL).trans (HZL.out j hlt)
        have zr := (KWB.out.cell (p := ⟨gR, oR + j, none⟩) hgR).trans (HZR.out j hlt)
        rw [hx] at zl
        rw [hy] at zr
        have hxi : (x : Int) + (y : Int) = (B : Int) - 1 := by omega
        have hBi : (B : Int) ≤ 16 := by omega
        have hB2i : (2 : Int) ≤ (B : Int) := by omega
        clear hx hy hxy
        go_wp2
        go_quiet (fail)
        go_wp2
        go_roundw
        case rel => exact ⟨j + 1, by omega, by go_num, below_drewC KB.out _⟩
        case measure => simp [intOf]; omega
      · obtain rfl : j = hh := by omega
        have BE9 := Lib.hid (BE8.out.trans (KB.out.mono BE8.out.size))
        obtain ⟨w9, hwr⟩ : ∃ w9, w9 = wr := ⟨_, rfl⟩
        subst hwr
        clear KB
        as_aux_lemma =>
          go_wp2_with fail
          refine (draw_TurnsOf _ xs1 _ (HS1.out.keep BE9.out) HL1.out).mono ?_
          rintro e y1 ⟨q, d, rfl, hb⟩
          have BE10 := Lib.hid (BE9.out.trans (hb.mono BE9.out.size))
          clear hb
          have HU1 := Lib.hid (fun w => impl_TurnsOf q d w)
          have HU2 := Lib.hid (fun w => spec_TurnsOf q d w)
          have HU3 := Lib.hid (fun w => impl_CyclicOf q d w)
          have HU4 := Lib.hid (fun w => spec_CyclicOf q d w)
          by_cases hR : FulR q d
          · obtain ⟨Q, D, rfl, rfl, hQ2, hQ3, hD2, hD3, _⟩ := hR.nats
            have HTF := Lib.hid (trn_facts hR).2.2
            have e1 : OK_TurnsOf (Q : Int) (D : Int) = true := decide_eq_true hR
            have e2 : OK_CyclicOf (Q : Int) (D : Int) = true := decide_eq_true hR
            have e3 : LF_TurnsOf (Q : Int) (D : Int) = trnL D Q (Q - 1) := by unfold LF_TurnsOf; rw [if_pos hR]; rfl
            have e4 : LF_CyclicOf (Q : Int) (D : Int) = rpt 1 Q D := by unfold LF_CyclicOf; rw [if_pos hR]; rfl
            rw [e1, e3] at HU1 HU2
            rw [e2, e4] at HU3 HU4
            have htl := trnL_len D Q (Q - 1)
            have hcl : (rpt 1 Q D).length = Q - 1 := by rw [rpt_len]; exact (trn_facts hR).2.2.per 0 (by omega)
            have HFR := Lib.hid (trn_facts hR).2.2.frc
            have HPE := Lib.hid (trn_facts hR).2.2.per
            have HTN := Lib.hid (trn_facts hR).2.2.turn
            obtain ⟨NQ, hNQ⟩ : ∃ NQ, NQ = Q - 1 := ⟨_, rfl⟩
            rw [← hNQ] at HU1 HU2 htl hcl HFR HPE HTN
            obtain ⟨TL, hTL⟩ : ∃ TL, TL = trnL D Q NQ := ⟨_, rfl⟩
            obtain ⟨CL, hCL⟩ : ∃ CL, CL = rpt 1 Q D := ⟨_, rfl⟩
            rw [← hTL] at HU1 HU2 htl HTN
            rw [← hCL] at HU3 HU4 hcl HTN
            have HTL := Lib.hid (show TL.length ≤ 300 by rw [htl]; omega)
            have HCL := Lib.hid (show CL.length ≤ 300 by rw [hcl]; omega)
            have hnq1 : 1 ≤ NQ := by omega
            have hnq3 : NQ ≤ 300 := by omega
            have hQN : (Q : Int) - 1 = (NQ : Int) := by omega
            have hQ3i : (Q : Int) ≤ 300 := by omega
            have hQ2i : (2 : Int) ≤ (Q : Int) := by omega
            clear hTL hCL e1 e2 e3 e4 hR HTF hNQ
            go_wp2_with fail
            refine (HU1.out _).mono ?_
            rintro e w11 ⟨uT, rfl, hr, hb⟩
            have BE11 := Lib.hid (BE10.out.trans (hb.mono BE10.out.size))
            have R18 := Lib.hid hr
            clear hr hb
            go_wp2_with fail
            refine (HU2.out _).mono ?_
            rintro e w12 ⟨uX, rfl, hr, hb⟩
            have R19 := Lib.hid (R18.out.keep hb)
            have BE12 := Lib.hid (BE11.out.trans (hb.mono BE11.out.size))
            have R20 := Lib.hid hr
            clear hr hb
            go_wp2_with fail
            refine (HU3.out _).mono ?_
            rintro e w13 ⟨uC, rfl, hr, hb⟩
            have R21 := Lib.hid (R19.out.keep hb)
            have R22 := Lib.hid (R20.out.keep hb)
            have BE13 := Lib.hid (BE12.out.trans (hb.mono BE12.out.size))
            have R23 := Lib.hid hr
            clear hr hb
            go_wp2_with fail
            refine (HU4.out _).mono ?_
            rintro e w14 ⟨uY, rfl, hr, hb⟩
            have R24 := Lib.hid (R21.out.keep hb)
            have R25 := Lib.hid (R22.out.keep hb)
            have R26 := Lib.hid (R23.out.keep hb)
            have BE14 := Lib.hid (BE13.out.trans (hb.mono BE13.out.size))
            have R27 := Lib.hid hr
            clear hr hb
            go_wp2_with fail
            refine (qSame_any _ _ TL _ R24.out.sl R25.out.sl (by have := HTL.out; omega)).mono ?_
            rintro e w15 ⟨rfl, hb⟩
            have R28 := Lib.hid (R24.out.keep hb)
            have R29 := Lib.hid (R25.out.keep hb)
            have R30 := Lib.hid (R26.out.keep hb)
            have R31 := Lib.hid (R27.out.keep hb)
            have BE15 := Lib.hid (BE14.out.trans (hb.mono BE14.out.size))
            clear hb
            go_wp2_with fail
            refine (qSame_any _ _ CL _ R30.out.sl R31.out.sl (by have := HCL.out; omega)).mono ?_
            rintro e w16 ⟨rfl, hb⟩
            have R32 := Lib.hid (R28.out.keep hb)
            have R33 := Lib.hid (R29.out.keep hb)
            have R34 := Lib.hid (R30.out.keep hb)
            have R35 := Lib.hid (R31.out.keep hb)
            have BE16 := Lib.hid (BE15.out.trans (hb.mono BE15.out.size))
            clear hb
            obtain ⟨gT, oT, cT, hTe, hgT, hzT⟩ := sl_lies R32.out.sl (by rw [htl]; omega)
            obtain ⟨gC, oC, cC, hCe, hgC, hzC⟩ := sl_lies R34.out.sl (by rw [hcl]; omega)
            subst hTe
            subst hCe
            rw [htl, hcl]
            have HZT := Lib.hid (fun j (hj : j < NQ) => hzT j (by rw [htl]; exact hj))
            have HZC := Lib.hid (fun j (hj : j < NQ) => hzC j (by rw [hcl]; exact hj))
            clear hzT hzC htl hcl
            go_wp2
            go_loopw [186] (fun i wr => ∃ j : Nat, j ≤ NQ ∧ i = .int .i64 (j : Int) ∧ Below w16.heap.size w16 wr) (fun i _ => NQ - (intOf i).toNat)
            case atStart => exact ⟨0, Nat.zero_le _, rfl, Below.refl _ _⟩
            case round =>
              obtain ⟨j, hj, rfl, hb⟩ := hrel
              have KB := Lib.hid hb
              clear hb
              by_cases hlt : j < NQ
              · have hji : (j : Int) < (NQ : Int) := by omega
                obtain ⟨y, hy, hyq, hturn⟩ := HTN.out j hlt
                have HTU := Lib.hid hturn
                have hfr := HFR.out j hlt
                have hpe := HPE.out j hlt
                have zj := (KB.out.cell (p := ⟨gT, oT + j, none⟩) hgT).trans (HZT.out j hlt)
                rw [hy] at zj
                have HRE := Lib.hid (fun w => impl_RepetendOf ((j : Int) + 1) (Q : Int) (D : Int) w)
                have hjn : ((j : Int) + 1).toNat = j + 1 := by omega
                have eO : OK_RepetendOf ((j : Int) + 1) (Q : Int) (D : Int) = true := decide_eq_true ⟨hfr, by rw [hjn]; show pA (j + 1) Q D ≤ 400; rw [hpe]; omega⟩
                have eL : LF_RepetendOf ((j : Int) + 1) (Q : Int) (D : Int) = rpt (j + 1) Q D := by unfold LF_RepetendOf; rw [if_pos ⟨hfr, by rw [hjn]; show pA (j + 1) Q D ≤ 400; rw [hpe]; omega⟩, hjn]; rfl
                rw [eO, eL] at HRE
                have hol : (rpt (j + 1) Q D).length = NQ := by rw [rpt_len, hpe]
                obtain ⟨OW, hOW⟩ : ∃ OW, OW = rpt (j + 1) Q D := ⟨_, rfl⟩
                rw [← hOW] at HRE hol HTU
                clear hy hturn hfr hpe eO eL hOW hjn
                have hj1 : (j : Int) + 1 ≤ 300 := by omega
                go_wp2_with fail
                refine (HRE.out _).mono ?_
                rintro e z1 ⟨uo, rfl, hro, hb⟩
                have KB1 := Lib.hid (KB.out.trans (hb.mono KB.out.size))
                obtain ⟨gO, oO, cO, hOe, hgO, hzO⟩ := sl_lies hro.sl (by rw [hol]; omega)
                subst hOe
                rw [hol]
                have HZO := Lib.hid (fun k (hk : k < NQ) => hzO k (by rw [hol]; exact hk))
                clear hro hb hzO hol
                go_wp2
                go_loopw [210] (fun i wi => ∃ k : Nat, k ≤ NQ ∧ i = .int .i64 (k : Int) ∧ Below z1.heap.size z1 wi) (fun i _ => NQ - (intOf i).toNat)
                case atStart => exact ⟨0, Nat.zero_le _, rfl, Below.refl _ _⟩
                case round =>
                  obtain ⟨k, hk, rfl, hb⟩ := hrel
                  have QB := Lib.hid hb
                  clear hb
                  by_cases hlk : k < NQ
                  · have hki : (k : Int) < (NQ : Int) := by omega
                    obtain ⟨dd, hd1, hd2⟩ := HTU.out k hlk
                    obtain ⟨t, ht⟩ : ∃ t, t = k + y := ⟨_, rfl⟩
                    have hti : (k : Int) + (y : Int) = (t : Int) := by omega
                    rw [← ht] at hd2
                    obtain ⟨m, hm⟩ : ∃ m, m = t % NQ := ⟨_, rfl⟩
                    have hmN : m < NQ := by rw [hm]; exact Nat.mod_lt _ (by omega)
                    rw [← hm] at hd2
                    have hmi : (m : Int) < (NQ : Int) := by omega
                    have htm : Int.tmod (t : Int) (NQ : Int) = (m : Int) := by rw [Int.tmod_eq_emod_of_nonneg (by omega), hm]; rfl
                    have htm2 : (t : Int) % (NQ : Int) = (m : Int) := by rw [hm]; rfl
                    have htb : t ≤ 600 := by omega
                    have hn0 : (NQ : Int) ≠ 0 := by omega
                    have hn1 : ((NQ : Int) == 0) = false := beq_no hn0
                    have KQ := Lib.hid (KB1.out.trans (QB.out.mono KB1.out.size))
                    have zo := (QB.out.cell (p := ⟨gO, oO + k, none⟩) hgO).trans (HZO.out k hlk)
                    have zm := (KQ.out.cell (p := ⟨gC, oC + m, none⟩) hgC).trans (HZC.out m hmN)
                    rw [hd1] at zo
                    rw [hd2] at zm
                    clear hd1 hd2 ht hm
                    go_wp2
                    go_quiet (fail)
                    go_wp2
                    go_roundw
                    case rel => exact ⟨k + 1, by omega, by go_num, below_drewC QB.out _⟩
                    case measure => simp [intOf]; omega
                  · obtain rfl : k = NQ := by omega
                    have KQ := Lib.hid (KB1.out.trans (QB.out.mono KB1.out.size))
                    go_wp2
                    go_roundw
                    case rel => exact ⟨j + 1, by omega, by go_num, KQ.out⟩
                    case measure => simp [intOf]; omega
              · obtain rfl : j = NQ := by omega
                have BE17 := Lib.hid (BE16.out.trans (KB.out.mono BE16.out.size))
                obtain ⟨w17, hwr⟩ : ∃ w17, w17 = wr := ⟨_, rfl⟩
                subst hwr
                clear KB
                as_aux_lemma =>
                  go_wp2_with fail
                  refine (draw_FullPrimes _ xs1 _ (HS1.out.keep BE17.out) HL1.out).mono ?_
                  rintro e y2 ⟨c, m, rfl, hb⟩
                  have BE18 := Lib.hid (BE17.out.trans (hb.mono BE17.out.size))
                  clear hb
                  have HV1 := Lib.hid (fun w => impl_FullPrimes c m w)
                  have HV2 := Lib.hid (fun w => spec_FullPrimes c m w)
                  have HVL := Lib.hid (LF_FullPrimes_len c m)
                  have HME := Lib.hid (show ∀ j, j < (LF_FullPrimes c m).length → ∃ r : Nat, (LF_FullPrimes c m).getD j 0 = (r : Int) ∧ FulR (r : Int) c from fun j hj => by
                    unfold LF_FullPrimes at hj ⊢
                    split at hj
                    · next hc => rw [if_pos hc]; exact fp_mem hj
                    · simp at hj)
                  obtain ⟨ok, hok⟩ : ∃ ok, ok = OK_FullPrimes c m := ⟨_, rfl⟩
                  obtain ⟨LL, hLL⟩ : ∃ LL, LL = LF_FullPrimes c m := ⟨_, rfl⟩
                  rw [← hok, ← hLL] at HV1 HV2
                  rw [← hLL] at HVL HME
                  clear hok hLL
                  go_wp2_with fail
                  refine (HV1.out _).mono ?_
                  rintro e w19 ⟨uF, rfl, hr, hb⟩
                  have BE19 := Lib.hid (BE18.out.trans (hb.mono BE18.out.size))
                  have R36 := Lib.hid hr
                  clear hr hb
                  go_wp2_with fail
                  refine (HV2.out _).mono ?_
                  rintro e w20 ⟨uM, rfl, hr, hb⟩
                  have R37 := Lib.hid (R36.out.keep hb)
                  have BE20 := Lib.hid (BE19.out.trans (hb.mono BE19.out.size))
                  have R38 := Lib.hid hr
                  clear hr hb
                  have hsf := R37.out.sl
                  obtain ⟨aF, cF, hFe, hFx⟩ := hsf
                  subst hFe
                  have HFX := Lib.hid hFx
                  clear hFx
                  cases ok
                  all_goals
                    go_wp2_with fail
                    refine (qSame_any _ _ LL _ R37.out.sl R38.out.sl HVL.out).mono ?_
                    rintro e w21 ⟨rfl, hb⟩
                    have R39 := Lib.hid (R37.out.keep hb)
                    have R40 := Lib.hid (R38.out.keep hb)
                    have BE21 := Lib.hid (BE20.out.trans (hb.mono BE20.out.size))
                    clear hb
                    obtain ⟨NL, hNL⟩ : ∃ NL, NL = LL.length := ⟨_, rfl⟩
                    have HNL := Lib.hid hNL
                    rw [← hNL]
                    have hnl : NL ≤ 2000000 := by rw [hNL]; exact HVL.out
                    clear hNL
                    go_wp2
                    go_loopw [257] (fun i wr => ∃ j : Nat, j ≤ NL ∧ i = .int .i64 (j : Int) ∧ Below w21.heap.size w21 wr) (fun i _ => NL - (intOf i).toNat)
                    case atStart => exact ⟨0, Nat.zero_le _, rfl, Below.refl _ _⟩
                    case round =>
                      obtain ⟨j, hj, rfl, hb⟩ := hrel
                      have KB := Lib.hid hb
                      clear hb
                      by_cases hlt : j < NL
                      · have hji : (j : Int) < (NL : Int) := by omega
                        have hjl : j < LL.length := by rw [← HNL.out]; exact hlt
                        obtain ⟨r, hr, hful⟩ := HME.out j hjl
                        have hsl := (R39.out.keep KB.out).sl
                        obtain ⟨gF, oF, cF2, hFe, hgF, hzF⟩ := sl_lies hsl (by omega)
                        have hae : aF = some ⟨gF, oF, none⟩ := by injection hFe
                        subst hae
                        have zj := hzF j hjl
                        rw [hr] at zj
                        obtain ⟨R, C, hRR, rfl, hR2, hR3, hC2, hC3, hgd⟩ := hful.nats
                        obtain rfl : r = R := by omega
                        have ho : ordN C r + 1 = r := by simpa using hful.2.2.2.2.2
                        have eO : ROrd (r : Int) (C : Int) = some ((ordN C r : Nat) : Int) := by rw [ord_at hC2 hC3 (by omega) (by omega), if_pos hgd]
                        have HOR := Lib.hid (fun w => impl_OrderOf (r : Int) (C : Int) w)
                        simp only [optRes] at HOR
                        rw [eO] at HOR
                        simp only [Option.getD_some, Option.isSome_some] at HOR
                        have HCY := Lib.hid (fun w => impl_CyclicOf (r : Int) (C : Int) w)
                        rw [show OK_CyclicOf (r : Int) (C : Int) = true from decide_eq_true hful] at HCY
                        obtain ⟨O, hO⟩ : ∃ O, O = ordN C r := ⟨_, rfl⟩
                        rw [← hO] at HOR ho
                        have hOi : (O : Int) = (r : Int) - 1 := by omega
                        have HOI := Lib.hid hOi
                        have hr1 : (1 : Int) ≤ (r : Int) := by omega
                        have hr9 : (r : Int) ≤ 300 := by omega
                        clear hr hful hsl hFe hzF hRR eO hO hgd ho hOi
                        go_wp2_with fail
                        refine (HOR.out _).mono ?_
                        rintro e z1 ⟨rfl, hb⟩
                        have KB1 := Lib.hid (KB.out.trans (hb.mono KB.out.size))
                        clear hb
                        go_wp2_with fail
                        refine (HCY.out _).mono ?_
                        rintro e z2 ⟨uc, rfl, _, hb⟩
                        have KB2 := Lib.hid (KB1.out.trans (hb.mono KB1.out.size))
                        clear hb
                        have hOq : ((O : Int) == (r : Int) - 1) = true := by rw [HOI.out]; simp
                        have hOq2 : ((O : Int) != (r : Int) - 1) = false := by rw [HOI.out]; simp
                        go_wp2
                        go_roundw
                        case rel => exact ⟨j + 1, by omega, by go_num, KB2.out⟩
                        case measure => simp [intOf]; omega
                      · obtain rfl : j = NL := by omega
                        have BEZ := Lib.hid (BE21.out.trans (KB.out.mono BE21.out.size))
                        go_wp2
                        go_ret
                        exact ⟨rfl, BEZ.out⟩
          · have e1 : OK_TurnsOf q d = false := decide_eq_false hR
            have e2 : OK_CyclicOf q d = false := decide_eq_false hR
            have e3 : LF_TurnsOf q d = [] := if_neg hR
            have e4 : LF_CyclicOf q d = [] := if_neg hR
            rw [e1, e3] at HU1 HU2
            rw [e2, e4] at HU3 HU4
            have HTL := Lib.hid (show (0 : Nat) ≤ 1 by omega)
            have HCL := Lib.hid (show (0 : Nat) ≤ 1 by omega)
            clear e1 e2 e3 e4 hR
            go_wp2_with fail
            refine (HU1.out _).mono ?_
            rintro e w11 ⟨uT, rfl, hr, hb⟩
            have BE11 := Lib.hid (BE10.out.trans (hb.mono BE10.out.size))
            have R18 := Lib.hid hr
            clear hr hb
            go_wp2_with fail
            refine (HU2.out _).mono ?_
            rintro e w12 ⟨uX, rfl, hr, hb⟩
            have R19 := Lib.hid (R18.out.keep hb)
            have BE12 := Lib.hid (BE11.out.trans (hb.mono BE11.out.size))
            have R20 := Lib.hid hr
            clear hr hb
            go_wp2_with fail
            refine (HU3.out _).mono ?_
            rintro e w13 ⟨uC, rfl, hr, hb⟩
            have R21 := Lib.hid (R19.out.keep hb)
            have R22 := Lib.hid (R20.out.keep hb)
            have BE13 := Lib.hid (BE12.out.trans (hb.mono BE12.out.size))
            have R23 := Lib.hid hr
            clear hr hb
            go_wp2_with fail
            refine (HU4.out _).mono ?_
            rintro e w14 ⟨uY, rfl, hr, hb⟩
            have R24 := Lib.hid (R21.out.keep hb)
            have R25 := Lib.hid (R22.out.keep hb)
            have R26 := Lib.hid (R23.out.keep hb)
            have BE14 := Lib.hid (BE13.out.trans (hb.mono BE13.out.size))
            have R27 := Lib.hid hr
            clear hr hb
            go_wp2_with fail
            refine (qSame_any _ _ [] _ R24.out.sl R25.out.sl (by have := HTL.out; simp; try omega)).mono ?_
            rintro e w15 ⟨rfl, hb⟩
            have R28 := Lib.hid (R24.out.keep hb)
            have R29 := Lib.hid (R25.out.keep hb)
            have R30 := Lib.hid (R26.out.keep hb)
            have R31 := Lib.hid (R27.out.keep hb)
            have BE15 := Lib.hid (BE14.out.trans (hb.mono BE14.out.size))
            clear hb
            go_wp2_with fail
            refine (qSame_any _ _ [] _ R30.out.sl R31.out.sl (by have := HCL.out; simp; try omega)).mono ?_
            rintro e w16 ⟨rfl, hb⟩
            have R32 := Lib.hid (R28.out.keep hb)
            have R33 := Lib.hid (R29.out.keep hb)
            have R34 := Lib.hid (R30.out.keep hb)
            have R35 := Lib.hid (R31.out.keep hb)
            have BE16 := Lib.hid (BE15.out.trans (hb.mono BE15.out.size))
            clear hb
            as_aux_lemma =>
              go_wp2_with fail
              refine (draw_FullPrimes _ xs1 _ (HS1.out.keep BE16.out) HL1.out).mono ?_
              rintro e y2 ⟨c, m, rfl, hb⟩
              have BE17 := Lib.hid (BE16.out.trans (hb.mono BE16.out.size))
              clear hb
              have HV1 := Lib.hid (fun w => impl_FullPrimes c m w)
              have HV2 := Lib.hid (fun w => spec_FullPrimes c m w)
              have HVL := Lib.hid (LF_FullPrimes_len c m)
              have HME := Lib.hid (show ∀ j, j < (LF_FullPrimes c m).length → ∃ r : Nat, (LF_FullPrimes c m).getD j 0 = (r : Int) ∧ FulR (r : Int) c from fun j hj => by
                unfold LF_FullPrimes at hj ⊢
                split at hj
                · next hc => rw [if_pos hc]; exact fp_mem hj
                · simp at hj)
              obtain ⟨ok, hok⟩ : ∃ ok, ok = OK_FullPrimes c m := ⟨_, rfl⟩
              obtain ⟨LL, hLL⟩ : ∃ LL, LL = LF_FullPrimes c m := ⟨_, rfl⟩
              rw [← hok, ← hLL] at HV1 HV2
              rw [← hLL] at HVL HME
              clear hok hLL
              go_wp2_with fail
              refine (HV1.out _).mono ?_
              rintro e w18 ⟨uF, rfl, hr, hb⟩
              have BE18 := Lib.hid (BE17.out.trans (hb.mono BE17.out.size))
              have R36 := Lib.hid hr
              clear hr hb
              go_wp2_with fail
              refine (HV2.out _).mono ?_
              rintro e w19 ⟨uM, rfl, hr, hb⟩
              have R37 := Lib.hid (R36.out.keep hb)
              have BE19 := Lib.hid (BE18.out.trans (hb.mono BE18.out.size))
              have R38 := Lib.hid hr
              clear hr hb
              have hsf := R37.out.sl
              obtain ⟨aF, cF, hFe, hFx⟩ := hsf
              subst hFe
              have HFX := Lib.hid hFx
              clear hFx
              cases ok
              all_goals
                go_wp2_with fail
                refine (qSame_any _ _ LL _ R37.out.sl R38.out.sl HVL.out).mono ?_
                rintro e w20 ⟨rfl, hb⟩
                have R39 := Lib.hid (R37.out.keep hb)
                have R40 := Lib.hid (R38.out.keep hb)
                have BE20 := Lib.hid (BE19.out.trans (hb.mono BE19.out.size))
                clear hb
                obtain ⟨NL, hNL⟩ : ∃ NL, NL = LL.length := ⟨_, rfl⟩
                have HNL := Lib.hid hNL
                rw [← hNL]
                have hnl : NL ≤ 2000000 := by rw [hNL]; exact HVL.out
                clear hNL
                go_wp2
                go_loopw [257] (fun i wr => ∃ j : Nat, j ≤ NL ∧ i = .int .i64 (j : Int) ∧ Below w20.heap.size w20 wr) (fun i _ => NL - (intOf i).toNat)
                case atStart => exact ⟨0, Nat.zero_le _, rfl, Below.refl _ _⟩
                case round =>
                  obtain ⟨j, hj, rfl, hb⟩ := hrel
                  have KB := Lib.hid hb
                  clear hb
                  by_cases hlt : j < NL
                  · have hji : (j : Int) < (NL : Int) := by omega
                    have hjl : j < LL.length := by rw [← HNL.out]; exact hlt
                    obtain ⟨r, hr, hful⟩ := HME.out j hjl
                    have hsl := (R39.out.keep KB.out).sl
                    obtain ⟨gF, oF, cF2, hFe, hgF, hzF⟩ := sl_lies hsl (by omega)
                    have hae : aF = some ⟨gF, oF, none⟩ := by injection hFe
                    subst hae
                    have zj := hzF j hjl
                    rw [hr] at zj
                    obtain ⟨R, C, hRR, rfl, hR2, hR3, hC2, hC3, hgd⟩ := hful.nats
                    obtain rfl : r = R := by omega
                    have ho : ordN C r + 1 = r := by simpa using hful.2.2.2.2.2
                    have eO : ROrd (r : Int) (C : Int) = some ((ordN C r : Nat) : Int) := by rw [ord_at hC2 hC3 (by omega) (by omega), if_pos hgd]
                    have HOR := Lib.hid (fun w => impl_OrderOf (r : Int) (C : Int) w)
                    simp only [optRes] at HOR
                    rw [eO] at HOR
                    simp only [Option.getD_some, Option.isSome_some] at HOR
                    have HCY := Lib.hid (fun w => impl_CyclicOf (r : Int) (C : Int) w)
                    rw [show OK_CyclicOf (r : Int) (C : Int) = true from decide_eq_true hful] at HCY
                    obtain ⟨O, hO⟩ : ∃ O, O = ordN C r := ⟨_, rfl⟩
                    rw [← hO] at HOR ho
                    have hOi : (O : Int) = (r : Int) - 1 := by omega
                    have HOI := Lib.hid hOi
                    have hr1 : (1 : Int) ≤ (r : Int) := by omega
                    have hr9 : (r : Int) ≤ 300 := by omega
                    clear hr hful hsl hFe hzF hRR eO hO hgd ho hOi
                    go_wp2_with fail
                    refine (HOR.out _).mono ?_
                    rintro e z1 ⟨rfl, hb⟩
                    have KB1 := Lib.hid (KB.out.trans (hb.mono KB.out.size))
                    clear hb
                    go_wp2_with fail
                    refine (HCY.out _).mono ?_
                    rintro e z2 ⟨uc, rfl, _, hb⟩
                    have KB2 := Lib.hid (KB1.out.trans (hb.mono KB1.out.size))
                    clear hb
                    have hOq : ((O : Int) == (r : Int) - 1) = true := by rw [HOI.out]; simp
                    have hOq2 : ((O : Int) != (r : Int) - 1) = false := by rw [HOI.out]; simp
                    go_wp2
                    go_roundw
                    case rel => exact ⟨j + 1, by omega, by go_num, KB2.out⟩
                    case measure => simp [intOf]; omega
                  · obtain rfl : j = NL := by omega
                    have BEZ := Lib.hid (BE20.out.trans (KB.out.mono BE20.out.size))
                    go_wp2
                    go_ret
                    exact ⟨rfl, BEZ.out⟩
  · obtain ⟨e1, e2, e3⟩ := Hal_no hF
    rw [e1, e2, e3] at HI1 HT1
    clear e1 e2 e3 hF HLN
    go_wp2_with fail
    refine (HI1.out _).mono ?_
    rintro e w2 ⟨uL, uR, rfl, hr1, hr2, _, hb⟩
    have BE2 := Lib.hid (BE1.out.trans (hb.mono BE1.out.size))
    have R1 := Lib.hid hr1
    have R2 := Lib.hid hr2
    clear hr1 hr2 hb
    go_wp2_with fail
    refine (HT1.out _).mono ?_
    rintro e w3 ⟨uX, uY, rfl, hr1, hr2, _, hb⟩
    have R3 := Lib.hid (R1.out.keep hb)
    have R4 := Lib.hid (R2.out.keep hb)
    have BE3 := Lib.hid (BE2.out.trans (hb.mono BE2.out.size))
    have R5 := Lib.hid hr1
    have R6 := Lib.hid hr2
    clear hr1 hr2 hb
    go_wp2_with fail
    refine (qSame_any _ _ [] _ R3.out.sl R5.out.sl (by simp)).mono ?_
    rintro e w4 ⟨rfl, hb⟩
    have R7 := Lib.hid (R3.out.keep hb)
    have R8 := Lib.hid (R4.out.keep hb)
    have R9 := Lib.hid (R5.out.keep hb)
    have R10 := Lib.hid (R6.out.keep hb)
    have BE4 := Lib.hid (BE3.out.trans (hb.mono BE3.out.size))
    clear hb
    go_wp2_with fail
    refine (qSame_any _ _ [] _ R8.out.sl R10.out.sl (by simp)).mono ?_
    rintro e w5 ⟨rfl, hb⟩
    have R11 := Lib.hid (R7.out.keep hb)
    have R12 := Lib.hid (R8.out.keep hb)
    have R13 := Lib.hid (R9.out.keep hb)
    have R14 := Lib.hid (R10.out.keep hb)
    have BE5 := Lib.hid (BE4.out.trans (hb.mono BE4.out.size))
    clear hb
    as_aux_lemma =>
      go_wp2_with fail
      refine (draw_TurnsOf _ xs1 _ (HS1.out.keep BE5.out) HL1.out).mono ?_
      rintro e y1 ⟨q, d, rfl, hb⟩
      have BE6 := Lib.hid (BE5.out.trans (hb.mono BE5.out.size))
      clear hb
      have HU1 := Lib.hid (fun w => impl_TurnsOf q d w)
      have HU2 := Lib.hid (fun w => spec_TurnsOf q d w)
      have HU3 := Lib.hid (fun w => impl_CyclicOf q d w)
      have HU4 := Lib.hid (fun w => spec_CyclicOf q d w)
      by_cases hR : FulR q d
      · obtain ⟨Q, D, rfl, rfl, hQ2, hQ3, hD2, hD3, _⟩ := hR.nats
        have HTF := Lib.hid (trn_facts hR).2.2
        have e1 : OK_TurnsOf (Q : Int) (D : Int) = true := decide_eq_true hR
        have e2 : OK_CyclicOf (Q : Int) (D : Int) = true := decide_eq_true hR
        have e3 : LF_TurnsOf (Q : Int) (D : Int) = trnL D Q (Q - 1) := by unfold LF_TurnsOf; rw [if_pos hR]; rfl
        have e4 : LF_CyclicOf (Q : Int) (D : Int) = rpt 1 Q D := by unfold LF_CyclicOf; rw [if_pos hR]; rfl
        rw [e1, e3] at HU1 HU2
        rw [e2, e4] at HU3 HU4
        have htl := trnL_len D Q (Q - 1)
        have hcl : (rpt 1 Q D).length = Q - 1 := by rw [rpt_len]; exact (trn_facts hR).2.2.per 0 (by omega)
        have HFR := Lib.hid (trn_facts hR).2.2.frc
        have HPE := Lib.hid (trn_facts hR).2.2.per
        have HTN := Lib.hid (trn_facts hR).2.2.turn
        obtain ⟨NQ, hNQ⟩ : ∃ NQ, NQ = Q - 1 := ⟨_, rfl⟩
        rw [← hNQ] at HU1 HU2 htl hcl HFR HPE HTN
        obtain ⟨TL, hTL⟩ : ∃ TL, TL = trnL D Q NQ := ⟨_, rfl⟩
        obtain ⟨CL, hCL⟩ : ∃ CL, CL = rpt 1 Q D := ⟨_, rfl⟩
        rw [← hTL] at HU1 HU2 htl HTN
        rw [← hCL] at HU3 HU4 hcl HTN
        have HTL := Lib.hid (show TL.length ≤ 300 by rw [htl]; omega)
        have HCL := Lib.hid (show CL.length ≤ 300 by rw [hcl]; omega)
        have hnq1 : 1 ≤ NQ := by omega
        have hnq3 : NQ ≤ 300 := by omega
        have hQN : (Q : Int) - 1 = (NQ : Int) := by omega
        have hQ3i : (Q : Int) ≤ 300 := by omega
        have hQ2i : (2 : Int) ≤ (Q : Int) := by omega
        clear hTL hCL e1 e2 e3 e4 hR HTF hNQ
        go_wp2_with fail
        refine (HU1.out _).mono ?_
        rintro e w7 ⟨uT, rfl, hr, hb⟩
        have BE7 := Lib.hid (BE6.out.trans (hb.mono BE6.out.size))
        have R15 := Lib.hid hr
        clear hr hb
        go_wp2_with fail
        refine (HU2.out _).mono ?_
        rintro e w8 ⟨uX, rfl, hr, hb⟩
        have R16 := Lib.hid (R15.out.keep hb)
        have BE8 := Lib.hid (BE7.out.trans (hb.mono BE7.out.size))
        have R17 := Lib.hid hr
        clear hr hb
        go_wp2_with fail
        refine (HU3.out _).mono ?_
        rintro e w9 ⟨uC, rfl, hr, hb⟩
        have R18 := Lib.hid (R16.out.keep hb)
        have R19 := Lib.hid (R17.out.keep hb)
        have BE9 := Lib.hid (BE8.out.trans (hb.mono BE8.out.size))
        have R20 := Lib.hid hr
        clear hr hb
        go_wp2_with fail
        refine (HU4.out _).mono ?_
        rintro e w10 ⟨uY, rfl, hr, hb⟩
        have R21 := Lib.hid (R18.out.keep hb)
        have R22 := Lib.hid (R19.out.keep hb)
        have R23 := Lib.hid (R20.out.keep hb)
        have BE10 := Lib.hid (BE9.out.trans (hb.mono BE9.out.size))
        have R24 := Lib.hid hr
        clear hr hb
        go_wp2_with fail
        refine (qSame_any _ _ TL _ R21.out.sl R22.out.sl (by have := HTL.out; omega)).mono ?_
        rintro e w11 ⟨rfl, hb⟩
        have R25 := Lib.hid (R21.out.keep hb)
        have R26 := Lib.hid (R22.out.keep hb)
        have R27 := Lib.hid (R23.out.keep hb)
        have R28 := Lib.hid (R24.out.keep hb)
        have BE11 := Lib.hid (BE10.out.trans (hb.mono BE10.out.size))
        clear hb
        go_wp2_with fail
        refine (qSame_any _ _ CL _ R27.out.sl R28.out.sl (by have := HCL.out; omega)).mono ?_
        rintro e w12 ⟨rfl, hb⟩
        have R29 := Lib.hid (R25.out.keep hb)
        have R30 := Lib.hid (R26.out.keep hb)
        have R31 := Lib.hid (R27.out.keep hb)
        have R32 := Lib.hid (R28.out.keep hb)
        have BE12 := Lib.hid (BE11.out.trans (hb.mono BE11.out.size))
        clear hb
        obtain ⟨gT, oT, cT, hTe, hgT, hzT⟩ := sl_lies R29.out.sl (by rw [htl]; omega)
        obtain ⟨gC, oC, cC, hCe, hgC, hzC⟩ := sl_lies R31.out.sl (by rw [hcl]; omega)
        subst hTe
        subst hCe
        rw [htl, hcl]
        have HZT := Lib.hid (fun j (hj : j < NQ) => hzT j (by rw [htl]; exact hj))
        have HZC := Lib.hid (fun j (hj : j < NQ) => hzC j (by rw [hcl]; exact hj))
        clear hzT hzC htl hcl
        go_wp2
        go_loopw [186] (fun i wr => ∃ j : Nat, j ≤ NQ ∧ i = .int .i64 (j : Int) ∧ Below w12.heap.size w12 wr) (fun i _ => NQ - (intOf i).toNat)
        case atStart => exact ⟨0, Nat.zero_le _, rfl, Below.refl _ _⟩
        case round =>
          obtain ⟨j, hj, rfl, hb⟩ := hrel
          have KB := Lib.hid hb
          clear hb
          by_cases hlt : j < NQ
          · have hji : (j : Int) < (NQ : Int) := by omega
            obtain ⟨y, hy, hyq, hturn⟩ := HTN.out j hlt
            have HTU := Lib.hid hturn
            have hfr := HFR.out j hlt
            have hpe := HPE.out j hlt
            have zj := (KB.out.cell (p := ⟨gT, oT + j, none⟩) hgT).trans (HZT.out j hlt)
            rw [hy] at zj
            have HRE := Lib.hid (fun w => impl_RepetendOf ((j : Int) + 1) (Q : Int) (D : Int) w)
            have hjn : ((j : Int) + 1).toNat = j + 1 := by omega
            have eO : OK_RepetendOf ((j : Int) + 1) (Q : Int) (D : Int) = true := decide_eq_true ⟨hfr, by rw [hjn]; show pA (j + 1) Q D ≤ 400; rw [hpe]; omega⟩
            have eL : LF_RepetendOf ((j : Int) + 1) (Q : Int) (D : Int) = rpt (j + 1) Q D := by unfold LF_RepetendOf; rw [if_pos ⟨hfr, by rw [hjn]; show pA (j + 1) Q D ≤ 400; rw [hpe]; omega⟩, hjn]; rfl
            rw [eO, eL] at HRE
            have hol : (rpt (j + 1) Q D).length = NQ := by rw [rpt_len, hpe]
            obtain ⟨OW, hOW⟩ : ∃ OW, OW = rpt (j + 1) Q D := ⟨_, rfl⟩
            rw [← hOW] at HRE hol HTU
            clear hy hturn hfr hpe eO eL hOW hjn
            have hj1 : (j : Int) + 1 ≤ 300 := by omega
            go_wp2_with fail
            refine (HRE.out _).mono ?_
            rintro e z1 ⟨uo, rfl, hro, hb⟩
            have KB1 := Lib.hid (KB.out.trans (hb.mono KB.out.size))
            obtain ⟨gO, oO, cO, hOe, hgO, hzO⟩ := sl_lies hro.sl (by rw [hol]; omega)
            subst hOe
            rw [hol]
            have HZO := Lib.hid (fun k (hk : k < NQ) => hzO k (by rw [hol]; exact hk))
            clear hro hb hzO hol
            go_wp2
            go_loopw [210] (fun i wi => ∃ k : Nat, k ≤ NQ ∧ i = .int .i64 (k : Int) ∧ Below z1.heap.size z1 wi) (fun i _ => NQ - (intOf i).toNat)
            case atStart => exact ⟨0, Nat.zero_le _, rfl, Below.refl _ _⟩
            case round =>
              obtain ⟨k, hk, rfl, hb⟩ := hrel
              have QB := Lib.hid hb
              clear hb
              by_cases hlk : k < NQ
              · have hki : (k : Int) < (NQ : Int) := by omega
                obtain ⟨dd, hd1, hd2⟩ := HTU.out k hlk
                obtain ⟨t, ht⟩ : ∃ t, t = k + y := ⟨_, rfl⟩
                have hti : (k : Int) + (y : Int) = (t : Int) := by omega
                rw [← ht] at hd2
                obtain ⟨m, hm⟩ : ∃ m, m = t % NQ := ⟨_, rfl⟩
                have hmN : m < NQ := by rw [hm]; exact Nat.mod_lt _ (by omega)
                rw [← hm] at hd2
                have hmi : (m : Int) < (NQ : Int) := by omega
                have htm : Int.tmod (t : Int) (NQ : Int) = (m : Int) := by rw [Int.tmod_eq_emod_of_nonneg (by omega), hm]; rfl
                have htm2 : (t : Int) % (NQ : Int) = (m : Int) := by rw [hm]; rfl
                have htb : t ≤ 600 := by omega
                have hn0 : (NQ : Int) ≠ 0 := by omega
                have hn1 : ((NQ : Int) == 0) = false := beq_no hn0
                have KQ := Lib.hid (KB1.out.trans (QB.out.mono KB1.out.size))
                have zo := (QB.out.cell (p := ⟨gO, oO + k, none⟩) hgO).trans (HZO.out k hlk)
                have zm := (KQ.out.cell (p := ⟨gC, oC + m, none⟩) hgC).trans (HZC.out m hmN)
                rw [hd1] at zo
                rw [hd2] at zm
                clear hd1 hd2 ht hm
                go_wp2
                go_quiet (fail)
                go_wp2
                go_roundw
                case rel => exact ⟨k + 1, by omega, by go_num, below_drewC QB.out _⟩
                case measure => simp [intOf]; omega
              · obtain rfl : k = NQ := by omega
                have KQ := Lib.hid (KB1.out.trans (QB.out.mono KB1.out.size))
                go_wp2
                go_roundw
                case rel => exact ⟨j + 1, by omega, by go_num, KQ.out⟩
                case measure => simp [intOf]; omega
          · obtain rfl : j = NQ := by omega
            have BE13 := Lib.hid (BE12.out.trans (KB.out.mono BE12.out.size))
            obtain ⟨w13, hwr⟩ : ∃ w13, w13 = wr := ⟨_, rfl⟩
            subst hwr
            clear KB
            as_aux_lemma =>
              go_wp2_with fail
              refine (draw_FullPrimes _ xs1 _ (HS1.out.keep BE13.out) HL1.out).mono ?_
              rintro e y2 ⟨c, m, rfl, hb⟩
              have BE14 := Lib.hid (BE13.out.trans (hb.mono BE13.out.size))
              clear hb
              have HV1 := Lib.hid (fun w => impl_FullPrimes c m w)
              have HV2 := Lib.hid (fun w => spec_FullPrimes c m w)
              have HVL := Lib.hid (LF_FullPrimes_len c m)
              have HME := Lib.hid (show ∀ j, j < (LF_FullPrimes c m).length → ∃ r : Nat, (LF_FullPrimes c m).getD j 0 = (r : Int) ∧ FulR (r : Int) c from fun j hj => by
                unfold LF_FullPrimes at hj ⊢
                split at hj
                · next hc => rw [if_pos hc]; exact fp_mem hj
                · simp at hj)
              obtain ⟨ok, hok⟩ : ∃ ok, ok = OK_FullPrimes c m := ⟨_, rfl⟩
              obtain ⟨LL, hLL⟩ : ∃ LL, LL = LF_FullPrimes c m := ⟨_, rfl⟩
              rw [← hok, ← hLL] at HV1 HV2
              rw [← hLL] at HVL HME
              clear hok hLL
              go_wp2_with fail
              refine (HV1.out _).mono ?_
              rintro e w15 ⟨uF, rfl, hr, hb⟩
              have BE15 := Lib.hid (BE14.out.trans (hb.mono BE14.out.size))
              have R33 := Lib.hid hr
              clear hr hb
              go_wp2_with fail
              refine (HV2.out _).mono ?_
              rintro e w16 ⟨uM, rfl, hr, hb⟩
              have R34 := Lib.hid (R33.out.keep hb)
              have BE16 := Lib.hid (BE15.out.trans (hb.mono BE15.out.size))
              have R35 := Lib.hid hr
              clear hr hb
              have hsf := R34.out.sl
              obtain ⟨aF, cF, hFe, hFx⟩ := hsf
              subst hFe
              have HFX := Lib.hid hFx
              clear hFx
              cases ok
              all_goals
                go_wp2_with fail
                refine (qSame_any _ _ LL _ R34.out.sl R35.out.sl HVL.out).mono ?_
                rintro e w17 ⟨rfl, hb⟩
                have R36 := Lib.hid (R34.out.keep hb)
                have R37 := Lib.hid (R35.out.keep hb)
                have BE17 := Lib.hid (BE16.out.trans (hb.mono BE16.out.size))
                clear hb
                obtain ⟨NL, hNL⟩ : ∃ NL, NL = LL.length := ⟨_, rfl⟩
                have HNL := Lib.hid hNL
                rw [← hNL]
                have hnl : NL ≤ 2000000 := by rw [hNL]; exact HVL.out
                clear hNL
                go_wp2
                go_loopw [257] (fun i wr => ∃ j : Nat, j ≤ NL ∧ i = .int .i64 (j : Int) ∧ Below w17.heap.size w17 wr) (fun i _ => NL - (intOf i).toNat)
                case atStart => exact ⟨0, Nat.zero_le _, rfl, Below.refl _ _⟩
                case round =>
                  obtain ⟨j, hj, rfl, hb⟩ := hrel
                  have KB := Lib.hid hb
                  clear hb
                  by_cases hlt : j < NL
                  · have hji : (j : Int) < (NL : Int) := by omega
                    have hjl : j < LL.length := by rw [← HNL.out]; exact hlt
                    obtain ⟨r, hr, hful⟩ := HME.out j hjl
                    have hsl := (R36.out.keep KB.out).sl
                    obtain ⟨gF, oF, cF2, hFe, hgF, hzF⟩ := sl_lies hsl (by omega)
                    have hae : aF = some ⟨gF, oF, none⟩ := by injection hFe
                    subst hae
                    have zj := hzF j hjl
                    rw [hr] at zj
                    obtain ⟨R, C, hRR, rfl, hR2, hR3, hC2, hC3, hgd⟩ := hful.nats
                    obtain rfl : r = R := by omega
                    have ho : ordN C r + 1 = r := by simpa using hful.2.2.2.2.2
                    have eO : ROrd (r : Int) (C : Int) = some ((ordN C r : Nat) : Int) := by rw [ord_at hC2 hC3 (by omega) (by omega), if_pos hgd]
                    have HOR := Lib.hid (fun w => impl_OrderOf (r : Int) (C : Int) w)
                    simp only [optRes] at HOR
                    rw [eO] at HOR
                    simp only [Option.getD_some, Option.isSome_some] at HOR
                    have HCY := Lib.hid (fun w => impl_CyclicOf (r : Int) (C : Int) w)
                    rw [show OK_CyclicOf (r : Int) (C : Int) = true from decide_eq_true hful] at HCY
                    obtain ⟨O, hO⟩ : ∃ O, O = ordN C r := ⟨_, rfl⟩
                    rw [← hO] at HOR ho
                    have hOi : (O : Int) = (r : Int) - 1 := by omega
                    have HOI := Lib.hid hOi
                    have hr1 : (1 : Int) ≤ (r : Int) := by omega
                    have hr9 : (r : Int) ≤ 300 := by omega
                    clear hr hful hsl hFe hzF hRR eO hO hgd ho hOi
                    go_wp2_with fail
                    refine (HOR.out _).mono ?_
                    rintro e z1 ⟨rfl, hb⟩
                    have KB1 := Lib.hid (KB.out.trans (hb.mono KB.out.size))
                    clear hb
                    go_wp2_with fail
                    refine (HCY.out _).mono ?_
                    rintro e z2 ⟨uc, rfl, _, hb⟩
                    have KB2 := Lib.hid (KB1.out.trans (hb.mono KB1.out.size))
                    clear hb
                    have hOq : ((O : Int) == (r : Int) - 1) = true := by rw [HOI.out]; simp
                    have hOq2 : ((O : Int) != (r : Int) - 1) = false := by rw [HOI.out]; simp
                    go_wp2
                    go_roundw
                    case rel => exact ⟨j + 1, by omega, by go_num, KB2.out⟩
                    case measure => simp [intOf]; omega
                  · obtain rfl : j = NL := by omega
                    have BEZ := Lib.hid (BE17.out.trans (KB.out.mono BE17.out.size))
                    go_wp2
                    go_ret
                    exact ⟨rfl, BEZ.out⟩
      · have e1 : OK_TurnsOf q d = false := decide_eq_false hR
        have e2 : OK_CyclicOf q d = false := decide_eq_false hR
        have e3 : LF_TurnsOf q d = [] := if_neg hR
        have e4 : LF_CyclicOf q d = [] := if_neg hR
        rw [e1, e3] at HU1 HU2
        rw [e2, e4] at HU3 HU4
        have HTL := Lib.hid (show (0 : Nat) ≤ 1 by omega)
        have HCL := Lib.hid (show (0 : Nat) ≤ 1 by omega)
        clear e1 e2 e3 e4 hR
        go_wp2_with fail
        refine (HU1.out _).mono ?_
        rintro e w7 ⟨uT, rfl, hr, hb⟩
        have BE7 := Lib.hid (BE6.out.trans (hb.mono BE6.out.size))
        have R15 := Lib.hid hr
        clear hr hb
        go_wp2_with fail
        refine (HU2.out _).mono ?_
        rintro e w8 ⟨uX, rfl, hr, hb⟩
        have R16 := Lib.hid (R15.out.keep hb)
        have BE8 := Lib.hid (BE7.out.trans (hb.mono BE7.out.size))
        have R17 := Lib.hid hr
        clear hr hb
        go_wp2_with fail
        refine (HU3.out _).mono ?_
        rintro e w9 ⟨uC, rfl, hr, hb⟩
        have R18 := Lib.hid (R16.out.keep hb)
        have R19 := Lib.hid (R17.out.keep hb)
        have BE9 := Lib.hid (BE8.out.trans (hb.mono BE8.out.size))
        have R20 := Lib.hid hr
        clear hr hb
        go_wp2_with fail
        refine (HU4.out _).mono ?_
        rintro e w10 ⟨uY, rfl, hr, hb⟩
        have R21 := Lib.hid (R18.out.keep hb)
        have R22 := Lib.hid (R19.out.keep hb)
        have R23 := Lib.hid (R20.out.keep hb)
        have BE10 := Lib.hid (BE9.out.trans (hb.mono BE9.out.size))
        have R24 := Lib.hid hr
        clear hr hb
        go_wp2_with fail
        refine (qSame_any _ _ [] _ R21.out.sl R22.out.sl (by have := HTL.out; simp; try omega)).mono ?_
        rintro e w11 ⟨rfl, hb⟩
        have R25 := Lib.hid (R21.out.keep hb)
        have R26 := Lib.hid (R22.out.keep hb)
        have R27 := Lib.hid (R23.out.keep hb)
        have R28 := Lib.hid (R24.out.keep hb)
        have BE11 := Lib.hid (BE10.out.trans (hb.mono BE10.out.size))
        clear hb
        go_wp2_with fail
        refine (qSame_any _ _ [] _ R27.out.sl R28.out.sl (by have := HCL.out; simp; try omega)).mono ?_
        rintro e w12 ⟨rfl, hb⟩
        have R29 := Lib.hid (R25.out.keep hb)
        have R30 := Lib.hid (R26.out.keep hb)
        have R31 := Lib.hid (R27.out.keep hb)
        have R32 := Lib.hid (R28.out.keep hb)
        have BE12 := Lib.hid (BE11.out.trans (hb.mono BE11.out.size))
        clear hb
        as_aux_lemma =>
          go_wp2_with fail
          refine (draw_FullPrimes _ xs1 _ (HS1.out.keep BE12.out) HL1.out).mono ?_
          rintro e y2 ⟨c, m, rfl, hb⟩
          have BE13 := Lib.hid (BE12.out.trans (hb.mono BE12.out.size))
          clear hb
          have HV1 := Lib.hid (fun w => impl_FullPrimes c m w)
          have HV2 := Lib.hid (fun w => spec_FullPrimes c m w)
          have HVL := Lib.hid (LF_FullPrimes_len c m)
          have HME := Lib.hid (show ∀ j, j < (LF_FullPrimes c m).length → ∃ r : Nat, (LF_FullPrimes c m).getD j 0 = (r : Int) ∧ FulR (r : Int) c from fun j hj => by
            unfold LF_FullPrimes at hj ⊢
            split at hj
            · next hc => rw [if_pos hc]; exact fp_mem hj
            · simp at hj)
          obtain ⟨ok, hok⟩ : ∃ ok, ok = OK_FullPrimes c m := ⟨_, rfl⟩
          obtain ⟨LL, hLL⟩ : ∃ LL, LL = LF_FullPrimes c m := ⟨_, rfl⟩
          rw [← hok, ← hLL] at HV1 HV2
          rw [← hLL] at HVL HME
          clear hok hLL
          go_wp2_with fail
          refine (HV1.out _).mono ?_
          rintro e w14 ⟨uF, rfl, hr, hb⟩
          have BE14 := Lib.hid (BE13.out.trans (hb.mono BE13.out.size))
          have R33 := Lib.hid hr
          clear hr hb
          go_wp2_with fail
          refine (HV2.out _).mono ?_
          rintro e w15 ⟨uM, rfl, hr, hb⟩
          have R34 := Lib.hid (R33.out.keep hb)
          have BE15 := Lib.hid (BE14.out.trans (hb.mono BE14.out.size))
          have R35 := Lib.hid hr
          clear hr hb
          have hsf := R34.out.sl
          obtain ⟨aF, cF, hFe, hFx⟩ := hsf
          subst hFe
          have HFX := Lib.hid hFx
          clear hFx
          cases ok
          all_goals
            go_wp2_with fail
            refine (qSame_any _ _ LL _ R34.out.sl R35.out.sl HVL.out).mono ?_
            rintro e w16 ⟨rfl, hb⟩
            have R36 := Lib.hid (R34.out.keep hb)
            have R37 := Lib.hid (R35.out.keep hb)
            have BE16 := Lib.hid (BE15.out.trans (hb.mono BE15.out.size))
            clear hb
            obtain ⟨NL, hNL⟩ : ∃ NL, NL = LL.length := ⟨_, rfl⟩
            have HNL := Lib.hid hNL
            rw [← hNL]
            have hnl : NL ≤ 2000000 := by rw [hNL]; exact HVL.out
            clear hNL
            go_wp2
            go_loopw [257] (fun i wr => ∃ j : Nat, j ≤ NL ∧ i = .int .i64 (j : Int) ∧ Below w16.heap.size w16 wr) (fun i _ => NL - (intOf i).toNat)
            case atStart => exact ⟨0, Nat.zero_le _, rfl, Below.refl _ _⟩
            case round =>
              obtain ⟨j, hj, rfl, hb⟩ := hrel
              have KB := Lib.hid hb
              clear hb
              by_cases hlt : j < NL
              · have hji : (j : Int) < (NL : Int) := by omega
                have hjl : j < LL.length := by rw [← HNL.out]; exact hlt
                obtain ⟨r, hr, hful⟩ := HME.out j hjl
                have hsl := (R36.out.keep KB.out).sl
                obtain ⟨gF, oF, cF2, hFe, hgF, hzF⟩ := sl_lies hsl (by omega)
                have hae : aF = some ⟨gF, oF, none⟩ := by injection hFe
                subst hae
                have zj := hzF j hjl
                rw [hr] at zj
                obtain ⟨R, C, hRR, rfl, hR2, hR3, hC2, hC3, hgd⟩ := hful.nats
                obtain rfl : r = R := by omega
                have ho : ordN C r + 1 = r := by simpa using hful.2.2.2.2.2
                have eO : ROrd (r : Int) (C : Int) = some ((ordN C r : Nat) : Int) := by rw [ord_at hC2 hC3 (by omega) (by omega), if_pos hgd]
                have HOR := Lib.hid (fun w => impl_OrderOf (r : Int) (C : Int) w)
                simp only [optRes] at HOR
                rw [eO] at HOR
                simp only [Option.getD_some, Option.isSome_some] at HOR
                have HCY := Lib.hid (fun w => impl_CyclicOf (r : Int) (C : Int) w)
                rw [show OK_CyclicOf (r : Int) (C : Int) = true from decide_eq_true hful] at HCY
                obtain ⟨O, hO⟩ : ∃ O, O = ordN C r := ⟨_, rfl⟩
                rw [← hO] at HOR ho
                have hOi : (O : Int) = (r : Int) - 1 := by omega
                have HOI := Lib.hid hOi
                have hr1 : (1 : Int) ≤ (r : Int) := by omega
                have hr9 : (r : Int) ≤ 300 := by omega
                clear hr hful hsl hFe hzF hRR eO hO hgd ho hOi
                go_wp2_with fail
                refine (HOR.out _).mono ?_
                rintro e z1 ⟨rfl, hb⟩
                have KB1 := Lib.hid (KB.out.trans (hb.mono KB.out.size))
                clear hb
                go_wp2_with fail
                refine (HCY.out _).mono ?_
                rintro e z2 ⟨uc, rfl, _, hb⟩
                have KB2 := Lib.hid (KB1.out.trans (hb.mono KB1.out.size))
                clear hb
                have hOq : ((O : Int) == (r : Int) - 1) = true := by rw [HOI.out]; simp
                have hOq2 : ((O : Int) != (r : Int) - 1) = false := by rw [HOI.out]; simp
                go_wp2
                go_roundw
                case rel => exact ⟨j + 1, by omega, by go_num, KB2.out⟩
                case measure => simp [intOf]; omega
              · obtain rfl : j = NL := by omega
                have BEZ := Lib.hid (BE16.out.trans (KB.out.mono BE16.out.size))
                go_wp2
                go_ret
                exact ⟨rfl, BEZ.out⟩

end Go.Proofs.Ytgiabadkbfbilab
