/-
  Joint text of 4T (written by wip/tools/merge.py).
-/
import Derived.Test.Ytgiabadkbfbilaa4R
import Derived.Test.Ytgiabadkbfbilaa4S
import Derived.Test.YtgiabadkbfbilaaG
import Derived.Test.YtgiabadkbfbilaaAH
import Derived.Test.Ytgiabadkbfbilaa0D
import Derived.Deep.QuietTactic
import Derived.BigQuiet
/- from X4T -/
namespace Go.Proofs.Ytgiabadkbfbilaa
open Go.RowKit
set_option linter.unusedVariables false
set_option linter.unusedSimpArgs false
set_option maxRecDepth 100000

theorem below_drewR {B : Nat} {a w : World} (h : Below B a w) (n : Nat) : Below B a (w.drewN n) := ⟨h.1, h.2, h.3, h.4, h.5⟩

theorem sl_liesR {w : World} {v : Value} {xs : List Int} (h : Sl w v xs) (h0 : 0 < xs.length) : ∃ b o cap, v = .slice (some ⟨b, o, none⟩) xs.length cap ∧ b < w.heap.size ∧ ∀ j, j < xs.length → w.cell? ⟨b, o + j, none⟩ = some (.int .i64 (xs.getD j 0)) := by
  obtain ⟨a, cap, rfl, hx⟩ := h
  rcases hx with hx | ⟨b, off, rfl, hbl, hc⟩
  · rw [hx] at h0; simp at h0
  · refine ⟨b, off, cap, rfl, hbl, fun j hj => ?_⟩
    rw [hc j hj, List.getD_eq_getElem?_getD, List.getElem?_eq_getElem hj]
    rfl
theorem ansL_has {p b x : Int} (h : ansL p b = some x) : RIsSmooth p b = true ∧ Num x ∧ Bas b ∧ pd b x = p := by
  by_cases hA : AskL p b
  · obtain ⟨⟨p0, p1⟩, b0, b1⟩ := id hA
    obtain ⟨P, rfl⟩ : ∃ P : Nat, p = (P : Int) := ⟨p.toNat, by omega⟩
    obtain ⟨B, rfl⟩ : ∃ B : Nat, b = (B : Int) := ⟨b.toNat, by omega⟩
    rw [ansL_yes hA] at h
    obtain ⟨x0, x1, x2, x3⟩ := lwp_prod (by omega) (by omega) (by omega) (by omega) h
    refine ⟨?_, ⟨x0, x1⟩, ⟨b0, b1⟩, x2⟩
    rw [(RIsSmooth_yes ⟨⟨by omega, p1⟩, b0, b1⟩).1, x3]
  · rw [ansL_no hA] at h; cases h
theorem ansC_has {p b c : Int} (h : ansC p b = some c) : RIsSmooth p b = decide (0 < c) := by
  unfold ansC at h
  by_cases h2 : 2 ≤ p
  · rw [if_pos h2] at h
    unfold askI at h
    by_cases hq : Num p ∧ Bas b
    · rw [if_pos hq] at h
      obtain ⟨⟨p0, p1⟩, b0, b1⟩ := id hq
      obtain ⟨P, rfl⟩ : ∃ P : Nat, p = (P : Int) := ⟨p.toNat, by omega⟩
      obtain ⟨B, rfl⟩ : ∃ B : Nat, b = (B : Int) := ⟨b.toNat, by omega⟩
      rw [(RIsSmooth_yes hq).1, smo_iff (by omega) (by omega), ← Option.some.inj h]
      unfold RCountWithProduct
      simp
    · rw [if_neg hq] at h; cases h
  · rw [if_neg h2] at h; cases h

set_option maxHeartbeats 20000000 in
theorem law_ProductRuns {W : World} (v0 : Value) (xs0 : List Int) (hs0 : Sb W v0 xs0) (v1 : Value) (xs1 : List Int) (hs1 : Sb W v1 xs1) :
    Calls Try.prog 4 #[v0, v1] W fun e w' => e = .returned (.bool true) ∧ Below W.heap.size W w' := by
  obtain ⟨a0, k0, rfl⟩ := hs0.len
  obtain ⟨a1, k1, rfl⟩ := hs1.len
  have HS0 := Lib.hid hs0
  have HS1 := Lib.hid hs1
  have HB := Lib.hid (big_any a0 a1 xs0.length xs1.length k0 k1 W)
  clear hs0 hs1
  by_cases hbig : 1048576 < xs0.length ∨ 1048576 < xs0.length + xs1.length
  · rw [decide_eq_true hbig] at HB
    go_enter Try.func4, Try.ntmps4
    go_wp2_with (go_at_call 6; refine HB.out.mono ?_; rintro e w ⟨rfl, rfl⟩)
    go_ret
    exact ⟨rfl, Below.refl _ _⟩
  rw [decide_eq_false hbig] at HB
  have hl0 : xs0.length ≤ 1048576 := by omega
  have hl1 : xs1.length ≤ 1048576 := by omega
  have HL1 := Lib.hid hl1
  clear hbig
  go_enter Try.func4, Try.ntmps4
  go_wp2_with fail
  refine HB.out.mono ?_
  rintro e w ⟨rfl, rfl⟩
  go_wp2_with fail
  refine (draw_ProductRun _ xs0 _ HS0.out hl0).mono ?_
  rintro e w1 ⟨n, b, rfl, hb⟩
  have BE1 := Lib.hid hb
  clear hb hl0 hl1
  have HI1 := Lib.hid (fun w => impl_ProductRun n b w)
  have HT1 := Lib.hid (fun w => spec_ProductRun n b w)
  have HI2 := Lib.hid (fun w => impl_PersistenceOf n b w)
  have HT2 := Lib.hid (fun w => spec_PersistenceOf n b w)
  have HI3 := Lib.hid (fun w => impl_ProductRoot n b w)
  have HT3 := Lib.hid (fun w => spec_ProductRoot n b w)
  by_cases hq : Num n ∧ Bas b
  · skip
    obtain ⟨⟨n0, n1⟩, b0, b1⟩ := id hq
    have hprn := prn b b0 b1 n.toNat n (Nat.le_refl _) n0 n1
    have hpl := pru_len b n b0 b1 n0 n1
    obtain ⟨m, hm1, hm2, hm3, hm4⟩ := sorted_root b0 b1 n0 n1
    have e1 : askL pru n b = pru b n := if_pos hq
    have e2 : askI RPersistenceOf n b = some ((((pru b n).length - 1 : Nat) : Int)) := by unfold askI; rw [if_pos hq]; unfold RPersistenceOf; have := hprn.pos; exact congrArg some (by omega)
    have e3 : askI RProductRoot n b = some (lastD (pru b n)) := if_pos hq
    have e4 : okq n b = true := okq_yes hq
    have HSU := Lib.hid (fun w => impl_SortedUp n b w)
    have e5 : askF RSortedUp n b = some m := (if_pos hq).trans hm1
    rw [e5] at HSU
    have HRM := Lib.hid (fun w => impl_ProductRoot m b w)
    have e6 : askI RProductRoot m b = some (lastD (pru b m)) := if_pos ⟨⟨hm2, hm3⟩, b0, b1⟩
    rw [e6] at HRM
    have HDN := Lib.hid (fun w => impl_DigitProduct n b w)
    have e7 : askI RDigitProduct n b = some (pd b n) := if_pos hq
    rw [e7] at HDN
    rw [e1, e4] at HI1 HT1
    rw [e2] at HI2 HT2
    rw [e3] at HI3 HT3
    simp only [optRes, Option.getD_some, Option.isSome_some] at HI2 HT2 HI3 HT3 HSU HRM HDN
    have HST := Lib.hid hprn.step
    have HAL := Lib.hid hprn.all
    have hfi := hprn.first
    have hro := hprn.root
    have hla : (pru b n).getD ((pru b n).length - 1) 0 = lastD (pru b n) := rfl
    have hpos := hprn.pos
    obtain ⟨L, hL⟩ : ∃ L, L = pru b n := ⟨_, rfl⟩
    rw [← hL] at HI1 HT1 HI2 HT2 HI3 HT3 HST HAL hfi hro hla hpos hpl hm4
    obtain ⟨r, hr⟩ : ∃ r, r = lastD L := ⟨_, rfl⟩
    rw [← hr] at HI3 HT3 hro hla hm4
    obtain ⟨r2, hr2⟩ : ∃ r2, r2 = lastD (pru b m) := ⟨_, rfl⟩
    rw [← hr2] at HRM hm4
    obtain ⟨zz, hzz⟩ : ∃ zz, zz = pd b n := ⟨_, rfl⟩
    rw [← hzz] at HDN hm4
    obtain ⟨M, hM⟩ : ∃ M, L.length = M + 1 := ⟨L.length - 1, by omega⟩
    rw [hM, Nat.add_sub_cancel] at HI2 HT2 hla
    have HLM := Lib.hid hM
    have HM4 := Lib.hid hm4
    have hM1 : M ≤ 1000 := by omega
    clear hprn e1 e2 e3 e4 e5 e6 e7 hL hr hr2 hzz hM hm1 hm4 hpos hpl hq
    go_wp2_with fail
    refine (HI1.out _).mono ?_
    rintro e w2 ⟨uD, rfl, hr, hb⟩
    have BE2 := Lib.hid (BE1.out.trans (hb.mono BE1.out.size))
    have R1 := Lib.hid hr
    clear hr hb
    go_wp2_with fail
    refine (HT1.out _).mono ?_
    rintro e w3 ⟨uE, rfl, hr, hb⟩
    have R2 := Lib.hid (R1.out.keep hb)
    have BE3 := Lib.hid (BE2.out.trans (hb.mono BE2.out.size))
    have R3 := Lib.hid hr
    clear hr hb
    go_wp2_with fail
    refine (HI2.out _).mono ?_
    rintro e w4 ⟨rfl, hb⟩
    have R4 := Lib.hid (R2.out.keep hb)
    have R5 := Lib.hid (R3.out.keep hb)
    have BE4 := Lib.hid (BE3.out.trans (hb.mono BE3.out.size))
    clear hb
    go_wp2_with fail
    refine (HT2.out _).mono ?_
    rintro e w5 ⟨rfl, hb⟩
    have R6 := Lib.hid (R4.out.keep hb)
    have R7 := Lib.hid (R5.out.keep hb)
    have BE5 := Lib.hid (BE4.out.trans (hb.mono BE4.out.size))
    clear hb
    go_wp2_with fail
    refine (HI3.out _).mono ?_
    rintro e w6 ⟨rfl, hb⟩
    have R8 := Lib.hid (R6.out.keep hb)
    have R9 := Lib.hid (R7.out.keep hb)
    have BE6 := Lib.hid (BE5.out.trans (hb.mono BE5.out.size))
    clear hb
    go_wp2_with fail
    refine (HT3.out _).mono ?_
    rintro e w7 ⟨rfl, hb⟩
    have R10 := Lib.hid (R8.out.keep hb)
    have R11 := Lib.hid (R9.out.keep hb)
    have BE7 := Lib.hid (BE6.out.trans (hb.mono BE6.out.size))
    clear hb
    go_wp2_with fail
    refine (qSame_any _ _ L _ R10.out.sl R11.out.sl (by rw [HLM.out]; omega)).mono ?_
    rintro e w8 ⟨rfl, hb⟩
    have R12 := Lib.hid (R10.out.keep hb)
    have R13 := Lib.hid (R11.out.keep hb)
    have BE8 := Lib.hid (BE7.out.trans (hb.mono BE7.out.size))
    clear hb
    obtain ⟨gD, oD, cD, hDe, hgD, hzD⟩ := sl_liesR R12.out.sl (by rw [HLM.out]; omega)
    subst hDe
    have HZD := Lib.hid (fun j (hj : j < M + 1) => hzD j (by rw [HLM.out]; exact hj))
    have zf := HZD.out 0 (by omega)
    rw [hfi] at zf
    have zl := HZD.out M (by omega)
    rw [hla] at zl
    rw [HLM.out]
    obtain ⟨NL, hNL⟩ : ∃ NL, NL = M + 1 := ⟨_, rfl⟩
    rw [← hNL]
    have hNi : (M : Int) + 1 = (NL : Int) := by omega
    have hN0 : (0 : Int) < (NL : Int) := by omega
    have hMN : (M : Int) < (NL : Int) := by omega
    have hrb : ¬ b ≤ r := by omega
    have hnl9 : NL ≤ 1001 := by omega
    have HNL := Lib.hid hNL
    clear hzD hfi hla hNL
    rw [Nat.add_zero] at zf
    go_wp2
    go_loopw [19] (fun i wr => ∃ j : Nat, j ≤ M ∧ i = .int .i64 ((j : Int) + 1) ∧ Below w8.heap.size w8 wr) (fun i _ => M + 2 - (intOf i).toNat)
    case atStart => exact ⟨0, Nat.zero_le _, by go_num, Below.refl _ _⟩
    case round =>
      obtain ⟨j, hj, rfl, hb⟩ := hrel
      have KB := Lib.hid hb
      clear hb
      by_cases hlt : j < M
      · have hji : (j : Int) + 1 < (NL : Int) := by omega
        obtain ⟨s1, s2⟩ := HST.out j (by rw [HLM.out]; omega)
        have hal := HAL.out j (by rw [HLM.out]; omega)
        have hal2 := HAL.out (j + 1) (by rw [HLM.out]; omega)
        have HDS := Lib.hid (fun w => impl_DigitProduct (L.getD j 0) b w)
        have e1 : askI RDigitProduct (L.getD j 0) b = some (L.getD (j + 1) 0) := by unfold askI; rw [if_pos ⟨hal, b0, b1⟩]; exact congrArg some s1.symm
        rw [e1] at HDS
        simp only [optRes, Option.getD_some, Option.isSome_some] at HDS
        have z0 := (KB.out.cell (p := ⟨gD, oD + j, none⟩) hgD).trans (HZD.out j (by omega))
        have HZ1 := Lib.hid (HZD.out (j + 1) (by omega))
        have HZ0 := Lib.hid (HZD.out j (by omega))
        obtain ⟨x, hx⟩ : ∃ x, x = L.getD j 0 := ⟨_, rfl⟩
        obtain ⟨y, hy⟩ : ∃ y, y = L.getD (j + 1) 0 := ⟨_, rfl⟩
        rw [← hx] at z0 HDS hal s2 HZ0
        rw [← hy] at HDS s2 HZ1 hal2
        have hjN : (j : Int) < (NL : Int) := by omega
        clear e1 s1 hx hy
        go_wp2_with fail
        refine (HDS.out _).mono ?_
        rintro e z1 ⟨rfl, hb⟩
        have KB1 := Lib.hid (KB.out.trans (hb.mono KB.out.size))
        clear hb z0
        have za := (KB1.out.cell (p := ⟨gD, oD + j, none⟩) hgD).trans HZ0.out
        have zb := (KB1.out.cell (p := ⟨gD, oD + (j + 1), none⟩) hgD).trans HZ1.out
        have hxy : ¬ x ≤ y := by omega
        go_wp2
        go_quiet (fail)
        go_wp2
        go_roundw
        case rel => exact ⟨j + 1, by omega, by go_num, below_drewR KB1.out _⟩
        case measure => simp [intOf]; omega
      · obtain rfl : j = M := by omega
        have hji : ¬ (j : Int) + 1 < (NL : Int) := by omega
        clear zf zl
        have BE9 := Lib.hid (BE8.out.trans (KB.out.mono BE8.out.size))
        obtain ⟨w9, hwr⟩ : ∃ w9, w9 = wr := ⟨_, rfl⟩
        subst hwr
        clear KB
        go_wp2_with fail
        refine (HSU.out _).mono ?_
        rintro e w10 ⟨rfl, hb⟩
        have BE10 := Lib.hid (BE9.out.trans (hb.mono BE9.out.size))
        clear hb
        go_wp2_with fail
        refine (HRM.out _).mono ?_
        rintro e w11 ⟨rfl, hb⟩
        have BE11 := Lib.hid (BE10.out.trans (hb.mono BE10.out.size))
        clear hb
        go_wp2_with fail
        refine (HDN.out _).mono ?_
        rintro e w12 ⟨rfl, hb⟩
        have BE12 := Lib.hid (BE11.out.trans (hb.mono BE11.out.size))
        clear hb
        by_cases hz : 0 < zz
        · by_cases hbn : b ≤ n
          · obtain rfl := HM4.out hz hbn
            as_aux_lemma =>
              go_wp2_with fail
              refine (draw_LeastWithProduct _ xs1 _ (HS1.out.keep BE12.out) HL1.out).mono ?_
              rintro e y1 ⟨p, d, rfl, hb⟩
              have BE13 := Lib.hid (BE12.out.trans (hb.mono BE12.out.size))
              clear hb
              have HU1 := Lib.hid (fun w => impl_LeastWithProduct p d w)
              have HU2 := Lib.hid (fun w => spec_LeastWithProduct p d w)
              have HU3 := Lib.hid (fun w => impl_IsSmooth p d w)
              have HU4 := Lib.hid (fun w => spec_IsSmooth p d w)
              have HU5 := Lib.hid (fun w => impl_CountWithProduct p d w)
              have HU6 := Lib.hid (fun w => spec_CountWithProduct p d w)
              have HA1 := Lib.hid (fun x (h : ansL p d = some x) => ansL_has h)
              have HA2 := Lib.hid (fun x (h : ansC p d = some x) => ansC_has h)
              obtain ⟨al, hal⟩ : ∃ al, al = ansL p d := ⟨_, rfl⟩
              obtain ⟨ac, hac⟩ : ∃ ac, ac = ansC p d := ⟨_, rfl⟩
              obtain ⟨sm, hsm⟩ : ∃ sm, sm = RIsSmooth p d := ⟨_, rfl⟩
              obtain ⟨oq, hoq⟩ : ∃ oq, oq = okq p d := ⟨_, rfl⟩
              rw [← hal] at HU1 HU2 HA1
              rw [← hac] at HU5 HU6 HA2
              rw [← hsm] at HU3 HU4 HA1 HA2
              rw [← hoq] at HU3 HU4
              clear hal hac hsm hoq
              cases al with
              | none =>
                cases ac with
                | none =>
                  simp only [optRes, Option.getD_some, Option.isSome_some, Option.getD_none, Option.isSome_none] at HU1 HU2 HU5 HU6
                  go_wp2_with fail
                  refine (HU1.out _).mono ?_
                  rintro e w14 ⟨rfl, hb⟩
                  have BE14 := Lib.hid (BE13.out.trans (hb.mono BE13.out.size))
                  clear hb
                  go_wp2_with fail
                  refine (HU2.out _).mono ?_
                  rintro e w15 ⟨rfl, hb⟩
                  have BE15 := Lib.hid (BE14.out.trans (hb.mono BE14.out.size))
                  clear hb
                  go_wp2_with fail
                  refine (HU3.out _).mono ?_
                  rintro e w16 ⟨rfl, hb⟩
                  have BE16 := Lib.hid (BE15.out.trans (hb.mono BE15.out.size))
                  clear hb
                  go_wp2_with fail
                  refine (HU4.out _).mono ?_
                  rintro e w17 ⟨rfl, hb⟩
                  have BE17 := Lib.hid (BE16.out.trans (hb.mono BE16.out.size))
                  clear hb
                  go_wp2_with fail
                  refine (HU5.out _).mono ?_
                  rintro e w18 ⟨rfl, hb⟩
                  have BE18 := Lib.hid (BE17.out.trans (hb.mono BE17.out.size))
                  clear hb
                  go_wp2_with fail
                  refine (HU6.out _).mono ?_
                  rintro e w19 ⟨rfl, hb⟩
                  have BE19 := Lib.hid (BE18.out.trans (hb.mono BE18.out.size))
                  clear hb
                  as_aux_lemma =>
                    go_wp2_with fail
                    refine (draw_LeastPersistent _ xs1 _ (HS1.out.keep BE19.out) HL1.out).mono ?_
                    rintro e y2 ⟨k, c, rfl, hb⟩
                    have BE20 := Lib.hid (BE19.out.trans (hb.mono BE19.out.size))
                    clear hb
                    have HQ1 := Lib.hid (fun w => (show Calls Try.prog 45 #[.int .i64 k, .int .i64 c] w (fun e w' => ∃ r, e = .returned (.tuple #[.int .i64 r, .bool (decide (LPok k c) && (decide (k = 0) || decide (0 < r)))]) ∧ PLP k c r ∧ Below w.heap.size w w') from impl_LeastPersistent k c w))
                    have HQ2 := Lib.hid (fun w => (show Calls Try.prog 46 #[.int .i64 k, .int .i64 c] w (fun e w' => ∃ r, e = .returned (.tuple #[.int .i64 r, .bool (decide (LPok k c) && (decide (k = 0) || decide (0 < r)))]) ∧ PLP k c r ∧ Below w.heap.size w w') from spec_LeastPersistent k c w))
                    go_wp2_with fail
                    refine (HQ1.out _).mono ?_
                    rintro e w21 ⟨r, rfl, hr, hb⟩
                    have BE21 := Lib.hid (BE20.out.trans (hb.mono BE20.out.size))
                    clear hb
                    go_wp2_with fail
                    refine (HQ2.out _).mono ?_
                    rintro e w22 ⟨t, rfl, ht, hb⟩
                    have BE22 := Lib.hid (BE21.out.trans (hb.mono BE21.out.size))
                    clear hb
                    obtain rfl := hr.same ht
                    have HHA := Lib.hid (fun h => plp_has hr h)
                    obtain ⟨tt, htt⟩ : ∃ tt, tt = (decide (LPok k c) && (decide (k = 0) || decide (0 < r))) := ⟨_, rfl⟩
                    rw [← htt] at HHA ⊢
                    clear htt hr ht
                    cases tt
                    · go_wp2
                      go_ret
                      exact ⟨rfl, BE22.out⟩
                    · have HPE := Lib.hid (fun w => impl_PersistenceOf r c w)
                      rw [HHA.out rfl] at HPE
                      simp only [optRes, Option.getD_some, Option.isSome_some] at HPE
                      go_wp2_with fail
                      refine (HPE.out _).mono ?_
                      rintro e w23 ⟨rfl, hb⟩
                      have BE23 := Lib.hid (BE22.out.trans (hb.mono BE22.out.size))
                      clear hb
                      go_wp2
                      go_ret
                      exact ⟨rfl, BE23.out⟩
                | some c =>
                  have hsm := HA2.out c rfl
                  by_cases hc : 0 < c
                  · rw [decide_eq_true hc] at hsm
                    subst hsm
                    simp only [optRes, Option.getD_some, Option.isSome_some, Option.getD_none, Option.isSome_none] at HU1 HU2 HU5 HU6
                    go_wp2_with fail
                    refine (HU1.out _).mono ?_
                    rintro e w14 ⟨rfl, hb⟩
                    have BE14 := Lib.hid (BE13.out.trans (hb.mono BE13.out.size))
                    clear hb
                    go_wp2_with fail
                    refine (HU2.out _).mono ?_
                    rintro e w15 ⟨rfl, hb⟩
                    have BE15 := Lib.hid (BE14.out.trans (hb.mono BE14.out.size))
                    clear hb
                    go_wp2_with fail
                    refine (HU3.out _).mono ?_
                    rintro e w16 ⟨rfl, hb⟩
                    have BE16 := Lib.hid (BE15.out.trans (hb.mono BE15.out.size))
                    clear hb
                    go_wp2_with fail
                    refine (HU4.out _).mono ?_
                    rintro e w17 ⟨rfl, hb⟩
                    have BE17 := Lib.hid (BE16.out.trans (hb.mono BE16.out.size))
                    clear hb
                    go_wp2_with fail
                    refine (HU5.out _).mono ?_
                    rintro e w18 ⟨rfl, hb⟩
                    have BE18 := Lib.hid (BE17.out.trans (hb.mono BE17.out.size))
                    clear hb
                    go_wp2_with fail
                    refine (HU6.out _).mono ?_
                    rintro e w19 ⟨rfl, hb⟩
                    have BE19 := Lib.hid (BE18.out.trans (hb.mono BE18.out.size))
                    clear hb
                    as_aux_lemma =>
                      go_wp2_with fail
                      refine (draw_LeastPersistent _ xs1 _ (HS1.out.keep BE19.out) HL1.out).mono ?_
                      rintro e y2 ⟨k, c, rfl, hb⟩
                      have BE20 := Lib.hid (BE19.out.trans (hb.mono BE19.out.size))
                      clear hb
                      have HQ1 := Lib.hid (fun w => (show Calls Try.prog 45 #[.int .i64 k, .int .i64 c] w (fun e w' => ∃ r, e = .returned (.tuple #[.int .i64 r, .bool (decide (LPok k c) && (decide (k = 0) || decide (0 < r)))]) ∧ PLP k c r ∧ Below w.heap.size w w') from impl_LeastPersistent k c w))
                      have HQ2 := Lib.hid (fun w => (show Calls Try.prog 46 #[.int .i64 k, .int .i64 c] w (fun e w' => ∃ r, e = .returned (.tuple #[.int .i64 r, .bool (decide (LPok k c) && (decide (k = 0) || decide (0 < r)))]) ∧ PLP k c r ∧ Below w.heap.size w w') from spec_LeastPersistent k c w))
                      go_wp2_with fail
                      refine (HQ1.out _).mono ?_
                      rintro e w21 ⟨r, rfl, hr, hb⟩
                      have BE21 := Lib.hid (BE20.out.trans (hb.mono BE20.out.size))
                      clear hb
                      go_wp2_with fail
                      refine (HQ2.out _).mono ?_
                      rintro e w22 ⟨t, rfl, ht, hb⟩
                      have BE22 := Lib.hid (BE21.out.trans (hb.mono BE21.out.size))
                      clear hb
                      obtain rfl := hr.same ht
                      have HHA := Lib.hid (fun h => plp_has hr h)
                      obtain ⟨tt, htt⟩ : ∃ tt, tt = (decide (LPok k c) && (decide (k = 0) || decide (0 < r))) := ⟨_, rfl⟩
                      rw [← htt] at HHA ⊢
                      clear htt hr ht
                      cases tt
                      · go_wp2
                        go_ret
                        exact ⟨rfl, BE22.out⟩
                      · have HPE := Lib.hid (fun w => impl_PersistenceOf r c w)
                        rw [HHA.out rfl] at HPE
                        simp only [optRes, Option.getD_some, Option.isSome_some] at HPE
                        go_wp2_with fail
                        refine (HPE.out _).mono ?_
                        rintro e w23 ⟨rfl, hb⟩
                        have BE23 := Lib.hid (BE22.out.trans (hb.mono BE22.out.size))
                        clear hb
                        go_wp2
                        go_ret
                        exact ⟨rfl, BE23.out⟩
                  · rw [decide_eq_false hc] at hsm
                    subst hsm
                    simp only [optRes, Option.getD_some, Option.isSome_some, Option.getD_none, Option.isSome_none] at HU1 HU2 HU5 HU6
                    go_wp2_with fail
                    refine (HU1.out _).mono ?_
                    rintro e w14 ⟨rfl, hb⟩
                    have BE14 := Lib.hid (BE13.out.trans (hb.mono BE13.out.size))
                    clear hb
                    go_wp2_with fail
                    refine (HU2.out _).mono ?_
                    rintro e w15 ⟨rfl, hb⟩
                    have BE15 := Lib.hid (BE14.out.trans (hb.mono BE14.out.size))
                    clear hb
                    go_wp2_with fail
                    refine (HU3.out _).mono ?_
                    rintro e w16 ⟨rfl, hb⟩
                    have BE16 := Lib.hid (BE15.out.trans (hb.mono BE15.out.size))
                    clear hb
                    go_wp2_with fail
                    refine (HU4.out _).mono ?_
                    rintro e w17 ⟨rfl, hb⟩
                    have BE17 := Lib.hid (BE16.out.trans (hb.mono BE16.out.size))
                    clear hb
                    go_wp2_with fail
                    refine (HU5.out _).mono ?_
                    rintro e w18 ⟨rfl, hb⟩
                    have BE18 := Lib.hid (BE17.out.trans (hb.mono BE17.out.size))
                    clear hb
                    go_wp2_with fail
                    refine (HU6.out _).mono ?_
                    rintro e w19 ⟨rfl, hb⟩
                    have BE19 := Lib.hid (BE18.out.trans (hb.mono BE18.out.size))
                    clear hb
                    as_aux_lemma =>
                      go_wp2_with fail
                      refine (draw_LeastPersistent _ xs1 _ (HS1.out.keep BE19.out) HL1.out).mono ?_
                      rintro e y2 ⟨k, c, rfl, hb⟩
                      have BE20 := Lib.hid (BE19.out.trans (hb.mono BE19.out.size))
                      clear hb
                      have HQ1 := Lib.hid (fun w => (show Calls Try.prog 45 #[.int .i64 k, .int .i64 c] w (fun e w' => ∃ r, e = .returned (.tuple #[.int .i64 r, .bool (decide (LPok k c) && (decide (k = 0) || decide (0 < r)))]) ∧ PLP k c r ∧ Below w.heap.size w w') from impl_LeastPersistent k c w))
                      have HQ2 := Lib.hid (fun w => (show Calls Try.prog 46 #[.int .i64 k, .int .i64 c] w (fun e w' => ∃ r, e = .returned (.tuple #[.int .i64 r, .bool (decide (LPok k c) && (decide (k = 0) || decide (0 < r)))]) ∧ PLP k c r ∧ Below w.heap.size w w') from spec_LeastPersistent k c w))
                      go_wp2_with fail
                      refine (HQ1.out _).mono ?_
                      rintro e w21 ⟨r, rfl, hr, hb⟩
                      have BE21 := Lib.hid (BE20.out.trans (hb.mono BE20.out.size))
                      clear hb
                      go_wp2_with fail
                      refine (HQ2.out _).mono ?_
                      rintro e w22 ⟨t, rfl, ht, hb⟩
                      have BE22 := Lib.hid (BE21.out.trans (hb.mono BE21.out.size))
                      clear hb
                      obtain rfl := hr.same ht
                      have HHA := Lib.hid (fun h => plp_has hr h)
                      obtain ⟨tt, htt⟩ : ∃ tt, tt = (decide (LPok k c) && (decide (k = 0) || decide (0 < r))) := ⟨_, rfl⟩
                      rw [← htt] at HHA ⊢
                      clear htt hr ht
                      cases tt
                      · go_wp2
                        go_ret
                        exact ⟨rfl, BE22.out⟩
                      · have HPE := Lib.hid (fun w => impl_PersistenceOf r c w)
                        rw [HHA.out rfl] at HPE
                        simp only [optRes, Option.getD_some, Option.isSome_some] at HPE
                        go_wp2_with fail
                        refine (HPE.out _).mono ?_
                        rintro e w23 ⟨rfl, hb⟩
                        have BE23 := Lib.hid (BE22.out.trans (hb.mono BE22.out.size))
                        clear hb
                        go_wp2
                        go_ret
                        exact ⟨rfl, BE23.out⟩
              | some x =>
                obtain ⟨a1, a2, a3, a4⟩ := HA1.out x rfl
                subst a1
                have HDP := Lib.hid (fun w => impl_DigitProduct x d w)
                have e1 : askI RDigitProduct x d = some p := by unfold askI; rw [if_pos ⟨a2, a3⟩]; exact congrArg some a4
                rw [e1] at HDP
                simp only [optRes, Option.getD_some, Option.isSome_some] at HDP
                clear a2 a3 a4 e1
                cases ac with
                | none =>
                  simp only [optRes, Option.getD_some, Option.isSome_some, Option.getD_none, Option.isSome_none] at HU1 HU2 HU5 HU6
                  go_wp2_with fail
                  refine (HU1.out _).mono ?_
                  rintro e w14 ⟨rfl, hb⟩
                  have BE14 := Lib.hid (BE13.out.trans (hb.mono BE13.out.size))
                  clear hb
                  go_wp2_with fail
                  refine (HU2.out _).mono ?_
                  rintro e w15 ⟨rfl, hb⟩
                  have BE15 := Lib.hid (BE14.out.trans (hb.mono BE14.out.size))
                  clear hb
                  go_wp2_with fail
                  refine (HU3.out _).mono ?_
                  rintro e w16 ⟨rfl, hb⟩
                  have BE16 := Lib.hid (BE15.out.trans (hb.mono BE15.out.size))
                  clear hb
                  go_wp2_with fail
                  refine (HU4.out _).mono ?_
                  rintro e w17 ⟨rfl, hb⟩
                  have BE17 := Lib.hid (BE16.out.trans (hb.mono BE16.out.size))
                  clear hb
                  go_wp2_with fail
                  refine (HU5.out _).mono ?_
                  rintro e w18 ⟨rfl, hb⟩
                  have BE18 := Lib.hid (BE17.out.trans (hb.mono BE17.out.size))
                  clear hb
                  go_wp2_with fail
                  refine (HU6.out _).mono ?_
                  rintro e w19 ⟨rfl, hb⟩
                  have BE19 := Lib.hid (BE18.out.trans (hb.mono BE18.out.size))
                  clear hb
                  go_wp2_with fail
                  refine (HDP.out _).mono ?_
                  rintro e w20 ⟨rfl, hb⟩
                  have BE20 := Lib.hid (BE19.out.trans (hb.mono BE19.out.size))
                  clear hb
                  as_aux_lemma =>
                    go_wp2_with fail
                    refine (draw_LeastPersistent _ xs1 _ (HS1.out.keep BE20.out) HL1.out).mono ?_
                    rintro e y2 ⟨k, c, rfl, hb⟩
                    have BE21 := Lib.hid (BE20.out.trans (hb.mono BE20.out.size))
                    clear hb
                    have HQ1 := Lib.hid (fun w => (show Calls Try.prog 45 #[.int .i64 k, .int .i64 c] w (fun e w' => ∃ r, e = .returned (.tuple #[.int .i64 r, .bool (decide (LPok k c) && (decide (k = 0) || decide (0 < r)))]) ∧ PLP k c r ∧ Below w.heap.size w w') from impl_LeastPersistent k c w))
                    have HQ2 := Lib.hid (fun w => (show Calls Try.prog 46 #[.int .i64 k, .int .i64 c] w (fun e w' => ∃ r, e = .returned (.tuple #[.int .i64 r, .bool (decide (LPok k c) && (decide (k = 0) || decide (0 < r)))]) ∧ PLP k c r ∧ Below w.heap.size w w') from spec_LeastPersistent k c w))
                    go_wp2_with fail
                    refine (HQ1.out _).mono ?_
                    rintro e w22 ⟨r, rfl, hr, hb⟩
                    have BE22 := Lib.hid (BE21.out.trans (hb.mono BE21.out.size))
                    clear hb
                    go_wp2_with fail
                    refine (HQ2.out _).mono ?_
                    rintro e w23 ⟨t, rfl, ht, hb⟩
                    have BE23 := Lib.hid (BE22.out.trans (hb.mono BE22.out.size))
                    clear hb
                    obtain rfl := hr.same ht
                    have HHA := Lib.hid (fun h => plp_has hr h)
                    obtain ⟨tt, htt⟩ : ∃ tt, tt = (decide (LPok k c) && (decide (k = 0) || decide (0 < r))) := ⟨_, rfl⟩
                    rw [← htt] at HHA ⊢
                    clear htt hr ht
                    cases tt
                    · go_wp2
                      go_ret
                      exact ⟨rfl, BE23.out⟩
                    · have HPE := Lib.hid (fun w => impl_PersistenceOf r c w)
                      rw [HHA.out rfl] at HPE
                      simp only [optRes, Option.getD_some, Option.isSome_some] at HPE
                      go_wp2_with fail
                      refine (HPE.out _).mono ?_
                      rintro e w24 ⟨rfl, hb⟩
                      have BE24 := Lib.hid (BE23.out.trans (hb.mono BE23.out.size))
                      clear hb
                      go_wp2
                      go_ret
                      exact ⟨rfl, BE24.out⟩
                | some c =>
                  have hsm := HA2.out c rfl
                  have hc : 0 < c := of_decide_eq_true hsm.symm
                  clear hsm
                  simp only [optRes, Option.getD_some, Option.isSome_some, Option.getD_none, Option.isSome_none] at HU1 HU2 HU5 HU6
                  go_wp2_with fail
                  refine (HU1.out _).mono ?_
                  rintro e w14 ⟨rfl, hb⟩
                  have BE14 := Lib.hid (BE13.out.trans (hb.mono BE13.out.size))
                  clear hb
                  go_wp2_with fail
                  refine (HU2.out _).mono ?_
                  rintro e w15 ⟨rfl, hb⟩
                  have BE15 := Lib.hid (BE14.out.trans (hb.mono BE14.out.size))
                  clear hb
                  go_wp2_with fail
                  refine (HU3.out _).mono ?_
                  rintro e w16 ⟨rfl, hb⟩
                  have BE16 := Lib.hid (BE15.out.trans (hb.mono BE15.out.size))
                  clear hb
                  go_wp2_with fail
                  refine (HU4.out _).mono ?_
                  rintro e w17 ⟨rfl, hb⟩
                  have BE17 := Lib.hid (BE16.out.trans (hb.mono BE16.out.size))
                  clear hb
                  go_wp2_with fail
                  refine (HU5.out _).mono ?_
                  rintro e w18 ⟨rfl, hb⟩
                  have BE18 := Lib.hid (BE17.out.trans (hb.mono BE17.out.size))
                  clear hb
                  go_wp2_with fail
                  refine (HU6.out _).mono ?_
                  rintro e w19 ⟨rfl, hb⟩
                  have BE19 := Lib.hid (BE18.out.trans (hb.mono BE18.out.size))
                  clear hb
                  go_wp2_with fail
                  refine (HDP.out _).mono ?_
                  rintro e w20 ⟨rfl, hb⟩
                  have BE20 := Lib.hid (BE19.out.trans (hb.mono BE19.out.size))
                  clear hb
                  as_aux_lemma =>
                    go_wp2_with fail
                    refine (draw_LeastPersistent _ xs1 _ (HS1.out.keep BE20.out) HL1.out).mono ?_
                    rintro e y2 ⟨k, c, rfl, hb⟩
                    have BE21 := Lib.hid (BE20.out.trans (hb.mono BE20.out.size))
                    clear hb
                    have HQ1 := Lib.hid (fun w => (show Calls Try.prog 45 #[.int .i64 k, .int .i64 c] w (fun e w' => ∃ r, e = .returned (.tuple #[.int .i64 r, .bool (decide (LPok k c) && (decide (k = 0) || decide (0 < r)))]) ∧ PLP k c r ∧ Below w.heap.size w w') from impl_LeastPersistent k c w))
                    have HQ2 := Lib.hid (fun w => (show Calls Try.prog 46 #[.int .i64 k, .int .i64 c] w (fun e w' => ∃ r, e = .returned (.tuple #[.int .i64 r, .bool (decide (LPok k c) && (decide (k = 0) || decide (0 < r)))]) ∧ PLP k c r ∧ Below w.heap.size w w') from spec_LeastPersistent k c w))
                    go_wp2_with fail
                    refine (HQ1.out _).mono ?_
                    rintro e w22 ⟨r, rfl, hr, hb⟩
                    have BE22 := Lib.hid (BE21.out.trans (hb.mono BE21.out.size))
                    clear hb
                    go_wp2_with fail
                    refine (HQ2.out _).mono ?_
                    rintro e w23 ⟨t, rfl, ht, hb⟩
                    have BE23 := Lib.hid (BE22.out.trans (hb.mono BE22.out.size))
                    clear hb
                    obtain rfl := hr.same ht
                    have HHA := Lib.hid (fun h => plp_has hr h)
                    obtain ⟨tt, htt⟩ : ∃ tt, tt = (decide (LPok k c) && (decide (k = 0) || decide (0 < r))) := ⟨_, rfl⟩
                    rw [← htt] at HHA ⊢
                    clear htt hr ht
                    cases tt
                    · go_wp2
                      go_ret
                      exact ⟨rfl, BE23.out⟩
                    · have HPE := Lib.hid (fun w => impl_PersistenceOf r c w)
                      rw [HHA.out rfl] at HPE
                      simp only [optRes, Option.getD_some, Option.isSome_some] at HPE
                      go_wp2_with fail
                      refine (HPE.out _).mono ?_
                      rintro e w24 ⟨rfl, hb⟩
                      have BE24 := Lib.hid (BE23.out.trans (hb.mono BE23.out.size))
                      clear hb
                      go_wp2
                      go_ret
                      exact ⟨rfl, BE24.out⟩
          · skip
            as_aux_lemma =>
              go_wp2_with fail
              refine (draw_LeastWithProduct _ xs1 _ (HS1.out.keep BE12.out) HL1.out).mono ?_
              rintro e y1 ⟨p, d, rfl, hb⟩
              have BE13 := Lib.hid (BE12.out.trans (hb.mono BE12.out.size))
              clear hb
              have HU1 := Lib.hid (fun w => impl_LeastWithProduct p d w)
              have HU2 := Lib.hid (fun w => spec_LeastWithProduct p d w)
              have HU3 := Lib.hid (fun w => impl_IsSmooth p d w)
              have HU4 := Lib.hid (fun w => spec_IsSmooth p d w)
              have HU5 := Lib.hid (fun w => impl_CountWithProduct p d w)
              have HU6 := Lib.hid (fun w => spec_CountWithProduct p d w)
              have HA1 := Lib.hid (fun x (h : ansL p d = some x) => ansL_has h)
              have HA2 := Lib.hid (fun x (h : ansC p d = some x) => ansC_has h)
              obtain ⟨al, hal⟩ : ∃ al, al = ansL p d := ⟨_, rfl⟩
              obtain ⟨ac, hac⟩ : ∃ ac, ac = ansC p d := ⟨_, rfl⟩
              obtain ⟨sm, hsm⟩ : ∃ sm, sm = RIsSmooth p d := ⟨_, rfl⟩
              obtain ⟨oq, hoq⟩ : ∃ oq, oq = okq p d := ⟨_, rfl⟩
              rw [← hal] at HU1 HU2 HA1
              rw [← hac] at HU5 HU6 HA2
              rw [← hsm] at HU3 HU4 HA1 HA2
              rw [← hoq] at HU3 HU4
              clear hal hac hsm hoq
              cases al with
              | none =>
                cases ac with
                | none =>
                  simp only [optRes, Option.getD_some, Option.isSome_some, Option.getD_none, Option.isSome_none] at HU1 HU2 HU5 HU6
                  go_wp2_with fail
                  refine (HU1.out _).mono ?_
                  rintro e w14 ⟨rfl, hb⟩
                  have BE14 := Lib.hid (BE13.out.trans (hb.mono BE13.out.size))
                  clear hb
                  go_wp2_with fail
                  refine (HU2.out _).mono ?_
                  rintro e w15 ⟨rfl, hb⟩
                  have BE15 := Lib.hid (BE14.out.trans (hb.mono BE14.out.size))
                  clear hb
                  go_wp2_with fail
                  refine (HU3.out _).mono ?_
                  rintro e w16 ⟨rfl, hb⟩
                  have BE16 := Lib.hid (BE15.out.trans (hb.mono BE15.out.size))
                  clear hb
                  go_wp2_with fail
                  refine (HU4.out _).mono ?_
                  rintro e w17 ⟨rfl, hb⟩
                  have BE17 := Lib.hid (BE16.out.trans (hb.mono BE16.out.size))
                  clear hb
                  go_wp2_with fail
                  refine (HU5.out _).mono ?_
                  rintro e w18 ⟨rfl, hb⟩
                  have BE18 := Lib.hid (BE17.out.trans (hb.mono BE17.out.size))
                  clear hb
                  go_wp2_with fail
                  refine (HU6.out _).mono ?_
                  rintro e w19 ⟨rfl, hb⟩
                  have BE19 := Lib.hid (BE18.out.trans (hb.mono BE18.out.size))
                  clear hb
                  as_aux_lemma =>
                    go_wp2_with fail
                    refine (draw_LeastPersistent _ xs1 _ (HS1.out.keep BE19.out) HL1.out).mono ?_
                    rintro e y2 ⟨k, c, rfl, hb⟩
                    have BE20 := Lib.hid (BE19.out.trans (hb.mono BE19.out.size))
                    clear hb
                    have HQ1 := Lib.hid (fun w => (show Calls Try.prog 45 #[.int .i64 k, .int .i64 c] w (fun e w' => ∃ r, e = .returned (.tuple #[.int .i64 r, .bool (decide (LPok k c) && (decide (k = 0) || decide (0 < r)))]) ∧ PLP k c r ∧ Below w.heap.size w w') from impl_LeastPersistent k c w))
                    have HQ2 := Lib.hid (fun w => (show Calls Try.prog 46 #[.int .i64 k, .int .i64 c] w (fun e w' => ∃ r, e = .returned (.tuple #[.int .i64 r, .bool (decide (LPok k c) && (decide (k = 0) || decide (0 < r)))]) ∧ PLP k c r ∧ Below w.heap.size w w') from spec_LeastPersistent k c w))
                    go_wp2_with fail
                    refine (HQ1.out _).mono ?_
                    rintro e w21 ⟨r, rfl, hr, hb⟩
                    have BE21 := Lib.hid (BE20.out.trans (hb.mono BE20.out.size))
                    clear hb
                    go_wp2_with fail
                    refine (HQ2.out _).mono ?_
                    rintro e w22 ⟨t, rfl, ht, hb⟩
                    have BE22 := Lib.hid (BE21.out.trans (hb.mono BE21.out.size))
                    clear hb
                    obtain rfl := hr.same ht
                    have HHA := Lib.hid (fun h => plp_has hr h)
                    obtain ⟨tt, htt⟩ : ∃ tt, tt = (decide (LPok k c) && (decide (k = 0) || decide (0 < r))) := ⟨_, rfl⟩
                    rw [← htt] at HHA ⊢
                    clear htt hr ht
                    cases tt
                    · go_wp2
                      go_ret
                      exact ⟨rfl, BE22.out⟩
                    · have HPE := Lib.hid (fun w => impl_PersistenceOf r c w)
                      rw [HHA.out rfl] at HPE
                      simp only [optRes, Option.getD_some, Option.isSome_some] at HPE
                      go_wp2_with fail
                      refine (HPE.out _).mono ?_
                      rintro e w23 ⟨rfl, hb⟩
                      have BE23 := Lib.hid (BE22.out.trans (hb.mono BE22.out.size))
                      clear hb
                      go_wp2
                      go_ret
                      exact ⟨rfl, BE23.out⟩
                | some c =>
                  have hsm := HA2.out c rfl
                  by_cases hc : 0 < c
                  · rw [decide_eq_true hc] at hsm
                    subst hsm
                    simp only [optRes, Option.getD_some, Option.isSome_some, Option.getD_none, Option.isSome_none] at HU1 HU2 HU5 HU6
                    go_wp2_with fail
                    refine (HU1.out _).mono ?_
                    rintro e w14 ⟨rfl, hb⟩
                    have BE14 := Lib.hid (BE13.out.trans (hb.mono BE13.out.size))
                    clear hb
                    go_wp2_with fail
                    refine (HU2.out _).mono ?_
                    rintro e w15 ⟨rfl, hb⟩
                    have BE15 := Lib.hid (BE14.out.trans (hb.mono BE14.out.size))
                    clear hb
                    go_wp2_with fail
                    refine (HU3.out _).mono ?_
                    rintro e w16 ⟨rfl, hb⟩
                    have BE16 := Lib.hid (BE15.out.trans (hb.mono BE15.out.size))
                    clear hb
                    go_wp2_with fail
                    refine (HU4.out _).mono ?_
                    rintro e w17 ⟨rfl, hb⟩
                    have BE17 := Lib.hid (BE16.out.trans (hb.mono BE16.out.size))
                    clear hb
                    go_wp2_with fail
                    refine (HU5.out _).mono ?_
                    rintro e w18 ⟨rfl, hb⟩
                    have BE18 := Lib.hid (BE17.out.trans (hb.mono BE17.out.size))
                    clear hb
                    go_wp2_with fail
                    refine (HU6.out _).mono ?_
                    rintro e w19 ⟨rfl, hb⟩
                    have BE19 := Lib.hid (BE18.out.trans (hb.mono BE18.out.size))
                    clear hb
                    as_aux_lemma =>
                      go_wp2_with fail
                      refine (draw_LeastPersistent _ xs1 _ (HS1.out.keep BE19.out) HL1.out).mono ?_
                      rintro e y2 ⟨k, c, rfl, hb⟩
                      have BE20 := Lib.hid (BE19.out.trans (hb.mono BE19.out.size))
                      clear hb
                      have HQ1 := Lib.hid (fun w => (show Calls Try.prog 45 #[.int .i64 k, .int .i64 c] w (fun e w' => ∃ r, e = .returned (.tuple #[.int .i64 r, .bool (decide (LPok k c) && (decide (k = 0) || decide (0 < r)))]) ∧ PLP k c r ∧ Below w.heap.size w w') from impl_LeastPersistent k c w))
                      have HQ2 := Lib.hid (fun w => (show Calls Try.prog 46 #[.int .i64 k, .int .i64 c] w (fun e w' => ∃ r, e = .returned (.tuple #[.int .i64 r, .bool (decide (LPok k c) && (decide (k = 0) || decide (0 < r)))]) ∧ PLP k c r ∧ Below w.heap.size w w') from spec_LeastPersistent k c w))
                      go_wp2_with fail
                      refine (HQ1.out _).mono ?_
                      rintro e w21 ⟨r, rfl, hr, hb⟩
                      have BE21 := Lib.hid (BE20.out.trans (hb.mono BE20.out.size))
                      clear hb
                      go_wp2_with fail
                      refine (HQ2.out _).mono ?_
                      rintro e w22 ⟨t, rfl, ht, hb⟩
                      have BE22 := Lib.hid (BE21.out.trans (hb.mono BE21.out.size))
                      clear hb
                      obtain rfl := hr.same ht
                      have HHA := Lib.hid (fun h => plp_has hr h)
                      obtain ⟨tt, htt⟩ : ∃ tt, tt = (decide (LPok k c) && (decide (k = 0) || decide (0 < r))) := ⟨_, rfl⟩
                      rw [← htt] at HHA ⊢
                      clear htt hr ht
                      cases tt
                      · go_wp2
                        go_ret
                        exact ⟨rfl, BE22.out⟩
                      · have HPE := Lib.hid (fun w => impl_PersistenceOf r c w)
                        rw [HHA.out rfl] at HPE
                        simp only [optRes, Option.getD_some, Option.isSome_some] at HPE
                        go_wp2_with fail
                        refine (HPE.out _).mono ?_
                        rintro e w23 ⟨rfl, hb⟩
                        have BE23 := Lib.hid (BE22.out.trans (hb.mono BE22.out.size))
                        clear hb
                        go_wp2
                        go_ret
                        exact ⟨rfl, BE23.out⟩
                  · rw [decide_eq_false hc] at hsm
                    subst hsm
                    simp only [optRes, Option.getD_some, Option.isSome_some, Option.getD_none, Option.isSome_none] at HU1 HU2 HU5 HU6
                    go_wp2_with fail
                    refine (HU1.out _).mono ?_
                    rintro e w14 ⟨rfl, hb⟩
                    have BE14 := Lib.hid (BE13.out.trans (hb.mono BE13.out.size))
                    clear hb
                    go_wp2_with fail
                    refine (HU2.out _).mono ?_
                    rintro e w15 ⟨rfl, hb⟩
                    have BE15 := Lib.hid (BE14.out.trans (hb.mono BE14.out.size))
                    clear hb
                    go_wp2_with fail
                    refine (HU3.out _).mono ?_
                    rintro e w16 ⟨rfl, hb⟩
                    have BE16 := Lib.hid (BE15.out.trans (hb.mono BE15.out.size))
                    clear hb
                    go_wp2_with fail
                    refine (HU4.out _).mono ?_
                    rintro e w17 ⟨rfl, hb⟩
                    have BE17 := Lib.hid (BE16.out.trans (hb.mono BE16.out.size))
                    clear hb
                    go_wp2_with fail
                    refine (HU5.out _).mono ?_
                    rintro e w18 ⟨rfl, hb⟩
                    have BE18 := Lib.hid (BE17.out.trans (hb.mono BE17.out.size))
                    clear hb
                    go_wp2_with fail
                    refine (HU6.out _).mono ?_
                    rintro e w19 ⟨rfl, hb⟩
                    have BE19 := Lib.hid (BE18.out.trans (hb.mono BE18.out.size))
                    clear hb
                    as_aux_lemma =>
                      go_wp2_with fail
                      refine (draw_LeastPersistent _ xs1 _ (HS1.out.keep BE19.out) HL1.out).mono ?_
                      rintro e y2 ⟨k, c, rfl, hb⟩
                      have BE20 := Lib.hid (BE19.out.trans (hb.mono BE19.out.size))
                      clear hb
                      have HQ1 := Lib.hid (fun w => (show Calls Try.prog 45 #[.int .i64 k, .int .i64 c] w (fun e w' => ∃ r, e = .returned (.tuple #[.int .i64 r, .bool (decide (LPok k c) && (decide (k = 0) || decide (0 < r)))]) ∧ PLP k c r ∧ Below w.heap.size w w') from impl_LeastPersistent k c w))
                      have HQ2 := Lib.hid (fun w => (show Calls Try.prog 46 #[.int .i64 k, .int .i64 c] w (fun e w' => ∃ r, e = .returned (.tuple #[.int .i64 r, .bool (decide (LPok k c) && (decide (k = 0) || decide (0 < r)))]) ∧ PLP k c r ∧ Below w.heap.size w w') from spec_LeastPersistent k c w))
                      go_wp2_with fail
                      refine (HQ1.out _).mono ?_
                      rintro e w21 ⟨r, rfl, hr, hb⟩
                      have BE21 := Lib.hid (BE20.out.trans (hb.mono BE20.out.size))
                      clear hb
                      go_wp2_with fail
                      refine (HQ2.out _).mono ?_
                      rintro e w22 ⟨t, rfl, ht, hb⟩
                      have BE22 := Lib.hid (BE21.out.trans (hb.mono BE21.out.size))
                      clear hb
                      obtain rfl := hr.same ht
                      have HHA := Lib.hid (fun h => plp_has hr h)
                      obtain ⟨tt, htt⟩ : ∃ tt, tt = (decide (LPok k c) && (decide (k = 0) || decide (0 < r))) := ⟨_, rfl⟩
                      rw [← htt] at HHA ⊢
                      clear htt hr ht
                      cases tt
                      · go_wp2
                        go_ret
                        exact ⟨rfl, BE22.out⟩
                      · have HPE := Lib.hid (fun w => impl_PersistenceOf r c w)
                        rw [HHA.out rfl] at HPE
                        simp only [optRes, Option.getD_some, Option.isSome_some] at HPE
                        go_wp2_with fail
                        refine (HPE.out _).mono ?_
                        rintro e w23 ⟨rfl, hb⟩
                        have BE23 := Lib.hid (BE22.out.trans (hb.mono BE22.out.size))
                        clear hb
                        go_wp2
                        go_ret
                        exact ⟨rfl, BE23.out⟩
              | some x =>
                obtain ⟨a1, a2, a3, a4⟩ := HA1.out x rfl
                subst a1
                have HDP := Lib.hid (fun w => impl_DigitProduct x d w)
                have e1 : askI RDigitProduct x d = some p := by unfold askI; rw [if_pos ⟨a2, a3⟩]; exact congrArg some a4
                rw [e1] at HDP
                simp only [optRes, Option.getD_some, Option.isSome_some] at HDP
                clear a2 a3 a4 e1
                cases ac with
                | none =>
                  simp only [optRes, Option.getD_some, Option.isSome_some, Option.getD_none, Option.isSome_none] at HU1 HU2 HU5 HU6
                  go_wp2_with fail
                  refine (HU1.out _).mono ?_
                  rintro e w14 ⟨rfl, hb⟩
                  have BE14 := Lib.hid (BE13.out.trans (hb.mono BE13.out.size))
                  clear hb
                  go_wp2_with fail
                  refine (HU2.out _).mono ?_
                  rintro e w15 ⟨rfl, hb⟩
                  have BE15 := Lib.hid (BE14.out.trans (hb.mono BE14.out.size))
                  clear hb
                  go_wp2_with fail
                  refine (HU3.out _).mono ?_
                  rintro e w16 ⟨rfl, hb⟩
                  have BE16 := Lib.hid (BE15.out.trans (hb.mono BE15.out.size))
                  clear hb
                  go_wp2_with fail
                  refine (HU4.out _).mono ?_
                  rintro e w17 ⟨rfl, hb⟩
                  have BE17 := Lib.hid (BE16.out.trans (hb.mono BE16.out.size))
                  clear hb
                  go_wp2_with fail
                  refine (HU5.out _).mono ?_
                  rintro e w18 ⟨rfl, hb⟩
                  have BE18 := Lib.hid (BE17.out.trans (hb.mono BE17.out.size))
                  clear hb
                  go_wp2_with fail
                  refine (HU6.out _).mono ?_
                  rintro e w19 ⟨rfl, hb⟩
                  have BE19 := Lib.hid (BE18.out.trans (hb.mono BE18.out.size))
                  clear hb
                  go_wp2_with fail
                  refine (HDP.out _).mono ?_
                  rintro e w20 ⟨rfl, hb⟩
                  have BE20 := Lib.hid (BE19.out.trans (hb.mono BE19.out.size))
                  clear hb
                  as_aux_lemma =>
                    go_wp2_with fail
                    refine (draw_LeastPersistent _ xs1 _ (HS1.out.keep BE20.out) HL1.out).mono ?_
                    rintro e y2 ⟨k, c, rfl, hb⟩
                    have BE21 := Lib.hid (BE20.out.trans (hb.mono BE20.out.size))
                    clear hb
                    have HQ1 := Lib.hid (fun w => (show Calls Try.prog 45 #[.int .i64 k, .int .i64 c] w (fun e w' => ∃ r, e = .returned (.tuple #[.int .i64 r, .bool (decide (LPok k c) && (decide (k = 0) || decide (0 < r)))]) ∧ PLP k c r ∧ Below w.heap.size w w') from impl_LeastPersistent k c w))
                    have HQ2 := Lib.hid (fun w => (show Calls Try.prog 46 #[.int .i64 k, .int .i64 c] w (fun e w' => ∃ r, e = .returned (.tuple #[.int .i64 r, .bool (decide (LPok k c) && (decide (k = 0) || decide (0 < r)))]) ∧ PLP k c r ∧ Below w.heap.size w w') from spec_LeastPersistent k c w))
                    go_wp2_with fail
                    refine (HQ1.out _).mono ?_
                    rintro e w22 ⟨r, rfl, hr, hb⟩
                    have BE22 := Lib.hid (BE21.out.trans (hb.mono BE21.out.size))
                    clear hb
                    go_wp2_with fail
                    refine (HQ2.out _).mono ?_
                    rintro e w23 ⟨t, rfl, ht, hb⟩
                    have BE23 := Lib.hid (BE22.out.trans (hb.mono BE22.out.size))
                    clear hb
                    obtain rfl := hr.same ht
                    have HHA := Lib.hid (fun h => plp_has hr h)
                    obtain ⟨tt, htt⟩ : ∃ tt, tt = (decide (LPok k c) && (decide (k = 0) || decide (0 < r))) := ⟨_, rfl⟩
                    rw [← htt] at HHA ⊢
                    clear htt hr ht
                    cases tt
                    · go_wp2
                      go_ret
                      exact ⟨rfl, BE23.out⟩
                    · have HPE := Lib.hid (fun w => impl_PersistenceOf r c w)
                      rw [HHA.out rfl] at HPE
                      simp only [optRes, Option.getD_some, Option.isSome_some] at HPE
                      go_wp2_with fail
                      refine (HPE.out _).mono ?_
                      rintro e w24 ⟨rfl, hb⟩
                      have BE24 := Lib.hid (BE23.out.trans (hb.mono BE23.out.size))
                      clear hb
                      go_wp2
                      go_ret
                      exact ⟨rfl, BE24.out⟩
                | some c =>
                  have hsm := HA2.out c rfl
                  have hc : 0 < c := of_decide_eq_true hsm.symm
                  clear hsm
                  simp only [optRes, Option.getD_some, Option.isSome_some, Option.getD_none, Option.isSome_none] at HU1 HU2 HU5 HU6
                  go_wp2_with fail
                  refine (HU1.out _).mono ?_
                  rintro e w14 ⟨rfl, hb⟩
                  have BE14 := Lib.hid (BE13.out.trans (hb.mono BE13.out.size))
                  clear hb
                  go_wp2_with fail
                  refine (HU2.out _).mono ?_
                  rintro e w15 ⟨rfl, hb⟩
                  have BE15 := Lib.hid (BE14.out.trans (hb.mono BE14.out.size))
                  clear hb
                  go_wp2_with fail
                  refine (HU3.out _).mono ?_
                  rintro e w16 ⟨rfl, hb⟩
                  have BE16 := Lib.hid (BE15.out.trans (hb.mono BE15.out.size))
                  clear hb
                  go_wp2_with fail
                  refine (HU4.out _).mono ?_
                  rintro e w17 ⟨rfl, hb⟩
                  have BE17 := Lib.hid (BE16.out.trans (hb.mono BE16.out.size))
                  clear hb
                  go_wp2_with fail
                  refine (HU5.out _).mono ?_
                  rintro e w18 ⟨rfl, hb⟩
                  have BE18 := Lib.hid (BE17.out.trans (hb.mono BE17.out.size))
                  clear hb
                  go_wp2_with fail
                  refine (HU6.out _).mono ?_
                  rintro e w19 ⟨rfl, hb⟩
                  have BE19 := Lib.hid (BE18.out.trans (hb.mono BE18.out.size))
                  clear hb
                  go_wp2_with fail
                  refine (HDP.out _).mono ?_
                  rintro e w20 ⟨rfl, hb⟩
                  have BE20 := Lib.hid (BE19.out.trans (hb.mono BE19.out.size))
                  clear hb
                  as_aux_lemma =>
                    go_wp2_with fail
                    refine (draw_LeastPersistent _ xs1 _ (HS1.out.keep BE20.out) HL1.out).mono ?_
                    rintro e y2 ⟨k, c, rfl, hb⟩
                    have BE21 := Lib.hid (BE20.out.trans (hb.mono BE20.out.size))
                    clear hb
                    have HQ1 := Lib.hid (fun w => (show Calls Try.prog 45 #[.int .i64 k, .int .i64 c] w (fun e w' => ∃ r, e = .returned (.tuple #[.int .i64 r, .bool (decide (LPok k c) && (decide (k = 0) || decide (0 < r)))]) ∧ PLP k c r ∧ Below w.heap.size w w') from impl_LeastPersistent k c w))
                    have HQ2 := Lib.hid (fun w => (show Calls Try.prog 46 #[.int .i64 k, .int .i64 c] w (fun e w' => ∃ r, e = .returned (.tuple #[.int .i64 r, .bool (decide (LPok k c) && (decide (k = 0) || decide (0 < r)))]) ∧ PLP k c r ∧ Below w.heap.size w w') from spec_LeastPersistent k c w))
                    go_wp2_with fail
                    refine (HQ1.out _).mono ?_
                    rintro e w22 ⟨r, rfl, hr, hb⟩
                    have BE22 := Lib.hid (BE21.out.trans (hb.mono BE21.out.size))
                    clear hb
                    go_wp2_with fail
                    refine (HQ2.out _).mono ?_
                    rintro e w23 ⟨t, rfl, ht, hb⟩
                    have BE23 := Lib.hid (BE22.out.trans (hb.mono BE22.out.size))
                    clear hb
                    obtain rfl := hr.same ht
                    have HHA := Lib.hid (fun h => plp_has hr h)
                    obtain ⟨tt, htt⟩ : ∃ tt, tt = (decide (LPok k c) && (decide (k = 0) || decide (0 < r))) := ⟨_, rfl⟩
                    rw [← htt] at HHA ⊢
                    clear htt hr ht
                    cases tt
                    · go_wp2
                      go_ret
                      exact ⟨rfl, BE23.out⟩
                    · have HPE := Lib.hid (fun w => impl_PersistenceOf r c w)
                      rw [HHA.out rfl] at HPE
                      simp only [optRes, Option.getD_some, Option.isSome_some] at HPE
                      go_wp2_with fail
                      refine (HPE.out _).mono ?_
                      rintro e w24 ⟨rfl, hb⟩
                      have BE24 := Lib.hid (BE23.out.trans (hb.mono BE23.out.size))
                      clear hb
                      go_wp2
                      go_ret
                      exact ⟨rfl, BE24.out⟩
        · skip
          as_aux_lemma =>
            go_wp2_with fail
            refine (draw_LeastWithProduct _ xs1 _ (HS1.out.keep BE12.out) HL1.out).mono ?_
            rintro e y1 ⟨p, d, rfl, hb⟩
            have BE13 := Lib.hid (BE12.out.trans (hb.mono BE12.out.size))
            clear hb
            have HU1 := Lib.hid (fun w => impl_LeastWithProduct p d w)
            have HU2 := Lib.hid (fun w => spec_LeastWithProduct p d w)
            have HU3 := Lib.hid (fun w => impl_IsSmooth p d w)
            have HU4 := Lib.hid (fun w => spec_IsSmooth p d w)
            have HU5 := Lib.hid (fun w => impl_CountWithProduct p d w)
            have HU6 := Lib.hid (fun w => spec_CountWithProduct p d w)
            have HA1 := Lib.hid (fun x (h : ansL p d = some x) => ansL_has h)
            have HA2 := Lib.hid (fun x (h : ansC p d = some x) => ansC_has h)
            obtain ⟨al, hal⟩ : ∃ al, al = ansL p d := ⟨_, rfl⟩
            obtain ⟨ac, hac⟩ : ∃ ac, ac = ansC p d := ⟨_, rfl⟩
            obtain ⟨sm, hsm⟩ : ∃ sm, sm = RIsSmooth p d := ⟨_, rfl⟩
            obtain ⟨oq, hoq⟩ : ∃ oq, oq = okq p d := ⟨_, rfl⟩
            rw [← hal] at HU1 HU2 HA1
            rw [← hac] at HU5 HU6 HA2
            rw [← hsm] at HU3 HU4 HA1 HA2
            rw [← hoq] at HU3 HU4
            clear hal hac hsm hoq
            cases al with
            | none =>
              cases ac with
              | none =>
                simp only [optRes, Option.getD_some, Option.isSome_some, Option.getD_none, Option.isSome_none] at HU1 HU2 HU5 HU6
                go_wp2_with fail
                refine (HU1.out _).mono ?_
                rintro e w14 ⟨rfl, hb⟩
                have BE14 := Lib.hid (BE13.out.trans (hb.mono BE13.out.size))
                clear hb
                go_wp2_with fail
                refine (HU2.out _).mono ?_
                rintro e w15 ⟨rfl, hb⟩
                have BE15 := Lib.hid (BE14.out.trans (hb.mono BE14.out.size))
                clear hb
                go_wp2_with fail
                refine (HU3.out _).mono ?_
                rintro e w16 ⟨rfl, hb⟩
                have BE16 := Lib.hid (BE15.out.trans (hb.mono BE15.out.size))
                clear hb
                go_wp2_with fail
                refine (HU4.out _).mono ?_
                rintro e w17 ⟨rfl, hb⟩
                have BE17 := Lib.hid (BE16.out.trans (hb.mono BE16.out.size))
                clear hb
                go_wp2_with fail
                refine (HU5.out _).mono ?_
                rintro e w18 ⟨rfl, hb⟩
                have BE18 := Lib.hid (BE17.out.trans (hb.mono BE17.out.size))
                clear hb
                go_wp2_with fail
                refine (HU6.out _).mono ?_
                rintro e w19 ⟨rfl, hb⟩
                have BE19 := Lib.hid (BE18.out.trans (hb.mono BE18.out.size))
                clear hb
                as_aux_lemma =>
                  go_wp2_with fail
                  refine (draw_LeastPersistent _ xs1 _ (HS1.out.keep BE19.out) HL1.out).mono ?_
                  rintro e y2 ⟨k, c, rfl, hb⟩
                  have BE20 := Lib.hid (BE19.out.trans (hb.mono BE19.out.size))
                  clear hb
                  have HQ1 := Lib.hid (fun w => (show Calls Try.prog 45 #[.int .i64 k, .int .i64 c] w (fun e w' => ∃ r, e = .returned (.tuple #[.int .i64 r, .bool (decide (LPok k c) && (decide (k = 0) || decide (0 < r)))]) ∧ PLP k c r ∧ Below w.heap.size w w') from impl_LeastPersistent k c w))
                  have HQ2 := Lib.hid (fun w => (show Calls Try.prog 46 #[.int .i64 k, .int .i64 c] w (fun e w' => ∃ r, e = .returned (.tuple #[.int .i64 r, .bool (decide (LPok k c) && (decide (k = 0) || decide (0 < r)))]) ∧ PLP k c r ∧ Below w.heap.size w w') from spec_LeastPersistent k c w))
                  go_wp2_with fail
                  refine (HQ1.out _).mono ?_
                  rintro e w21 ⟨r, rfl, hr, hb⟩
                  have BE21 := Lib.hid (BE20.out.trans (hb.mono BE20.out.size))
                  clear hb
                  go_wp2_with fail
                  refine (HQ2.out _).mono ?_
                  rintro e w22 ⟨t, rfl, ht, hb⟩
                  have BE22 := Lib.hid (BE21.out.trans (hb.mono BE21.out.size))
                  clear hb
                  obtain rfl := hr.same ht
                  have HHA := Lib.hid (fun h => plp_has hr h)
                  obtain ⟨tt, htt⟩ : ∃ tt, tt = (decide (LPok k c) && (decide (k = 0) || decide (0 < r))) := ⟨_, rfl⟩
                  rw [← htt] at HHA ⊢
                  clear htt hr ht
                  cases tt
                  · go_wp2
                    go_ret
                    exact ⟨rfl, BE22.out⟩
                  · have HPE := Lib.hid (fun w => impl_PersistenceOf r c w)
                    rw [HHA.out rfl] at HPE
                    simp only [optRes, Option.getD_some, Option.isSome_some] at HPE
                    go_wp2_with fail
                    refine (HPE.out _).mono ?_
                    rintro e w23 ⟨rfl, hb⟩
                    have BE23 := Lib.hid (BE22.out.trans (hb.mono BE22.out.size))
                    clear hb
                    go_wp2
                    go_ret
                    exact ⟨rfl, BE23.out⟩
              | some c =>
                have hsm := HA2.out c rfl
                by_cases hc : 0 < c
                · rw [decide_eq_true hc] at hsm
                  subst hsm
                  simp only [optRes, Option.getD_some, Option.isSome_some, Option.getD_none, Option.isSome_none] at HU1 HU2 HU5 HU6
                  go_wp2_with fail
                  refine (HU1.out _).mono ?_
                  rintro e w14 ⟨rfl, hb⟩
                  have BE14 := Lib.hid (BE13.out.trans (hb.mono BE13.out.size))
                  clear hb
                  go_wp2_with fail
                  refine (HU2.out _).mono ?_
                  rintro e w15 ⟨rfl, hb⟩
                  have BE15 := Lib.hid (BE14.out.trans (hb.mono BE14.out.size))
                  clear hb
                  go_wp2_with fail
                  refine (HU3.out _).mono ?_
                  rintro e w16 ⟨rfl, hb⟩
                  have BE16 := Lib.hid (BE15.out.trans (hb.mono BE15.out.size))
                  clear hb
                  go_wp2_with fail
                  refine (HU4.out _).mono ?_
                  rintro e w17 ⟨rfl, hb⟩
                  have BE17 := Lib.hid (BE16.out.trans (hb.mono BE16.out.size))
                  clear hb
                  go_wp2_with fail
                  refine (HU5.out _).mono ?_
                  rintro e w18 ⟨rfl, hb⟩
                  have BE18 := Lib.hid (BE17.out.trans (hb.mono BE17.out.size))
                  clear hb
                  go_wp2_with fail
                  refine (HU6.out _).mono ?_
                  rintro e w19 ⟨rfl, hb⟩
                  have BE19 := Lib.hid (BE18.out.trans (hb.mono BE18.out.size))
                  clear hb
                  as_aux_lemma =>
                    go_wp2_with fail
                    refine (draw_LeastPersistent _ xs1 _ (HS1.out.keep BE19.out) HL1.out).mono ?_
                    rintro e y2 ⟨k, c, rfl, hb⟩
                    have BE20 := Lib.hid (BE19.out.trans (hb.mono BE19.out.size))
                    clear hb
                    have HQ1 := Lib.hid (fun w => (show Calls Try.prog 45 #[.int .i64 k, .int .i64 c] w (fun e w' => ∃ r, e = .returned (.tuple #[.int .i64 r, .bool (decide (LPok k c) && (decide (k = 0) || decide (0 < r)))]) ∧ PLP k c r ∧ Below w.heap.size w w') from impl_LeastPersistent k c w))
                    have HQ2 := Lib.hid (fun w => (show Calls Try.prog 46 #[.int .i64 k, .int .i64 c] w (fun e w' => ∃ r, e = .returned (.tuple #[.int .i64 r, .bool (decide (LPok k c) && (decide (k = 0) || decide (0 < r)))]) ∧ PLP k c r ∧ Below w.heap.size w w') from spec_LeastPersistent k c w))
                    go_wp2_with fail
                    refine (HQ1.out _).mono ?_
                    rintro e w21 ⟨r, rfl, hr, hb⟩
                    have BE21 := Lib.hid (BE20.out.trans (hb.mono BE20.out.size))
                    clear hb
                    go_wp2_with fail
                    refine (HQ2.out _).mono ?_
                    rintro e w22 ⟨t, rfl, ht, hb⟩
                    have BE22 := Lib.hid (BE21.out.trans (hb.mono BE21.out.size))
                    clear hb
                    obtain rfl := hr.same ht
                    have HHA := Lib.hid (fun h => plp_has hr h)
                    obtain ⟨tt, htt⟩ : ∃ tt, tt = (decide (LPok k c) && (decide (k = 0) || decide (0 < r))) := ⟨_, rfl⟩
                    rw [← htt] at HHA ⊢
                    clear htt hr ht
                    cases tt
                    · go_wp2
                      go_ret
                      exact ⟨rfl, BE22.out⟩
                    · have HPE := Lib.hid (fun w => impl_PersistenceOf r c w)
                      rw [HHA.out rfl] at HPE
                      simp only [optRes, Option.getD_some, Option.isSome_some] at HPE
                      go_wp2_with fail
                      refine (HPE.out _).mono ?_
                      rintro e w23 ⟨rfl, hb⟩
                      have BE23 := Lib.hid (BE22.out.trans (hb.mono BE22.out.size))
                      clear hb
                      go_wp2
                      go_ret
                      exact ⟨rfl, BE23.out⟩
                · rw [decide_eq_false hc] at hsm
                  subst hsm
                  simp only [optRes, Option.getD_some, Option.isSome_some, Option.getD_none, Option.isSome_none] at HU1 HU2 HU5 HU6
                  go_wp2_with fail
                  refine (HU1.out _).mono ?_
                  rintro e w14 ⟨rfl, hb⟩
                  have BE14 := Lib.hid (BE13.out.trans (hb.mono BE13.out.size))
                  clear hb
                  go_wp2_with fail
                  refine (HU2.out _).mono ?_
                  rintro e w15 ⟨rfl, hb⟩
                  have BE15 := Lib.hid (BE14.out.trans (hb.mono BE14.out.size))
                  clear hb
                  go_wp2_with fail
                  refine (HU3.out _).mono ?_
                  rintro e w16 ⟨rfl, hb⟩
                  have BE16 := Lib.hid (BE15.out.trans (hb.mono BE15.out.size))
                  clear hb
                  go_wp2_with fail
                  refine (HU4.out _).mono ?_
                  rintro e w17 ⟨rfl, hb⟩
                  have BE17 := Lib.hid (BE16.out.trans (hb.mono BE16.out.size))
                  clear hb
                  go_wp2_with fail
                  refine (HU5.out _).mono ?_
                  rintro e w18 ⟨rfl, hb⟩
                  have BE18 := Lib.hid (BE17.out.trans (hb.mono BE17.out.size))
                  clear hb
                  go_wp2_with fail
                  refine (HU6.out _).mono ?_
                  rintro e w19 ⟨rfl, hb⟩
                  have BE19 := Lib.hid (BE18.out.trans (hb.mono BE18.out.size))
                  clear hb
                  as_aux_lemma =>
                    go_wp2_with fail
                    refine (draw_LeastPersistent _ xs1 _ (HS1.out.keep BE19.out) HL1.out).mono ?_
                    rintro e y2 ⟨k, c, rfl, hb⟩
                    have BE20 := Lib.hid (BE19.out.trans (hb.mono BE19.out.size))
                    clear hb
                    have HQ1 := Lib.hid (fun w => (show Calls Try.prog 45 #[.int .i64 k, .int .i64 c] w (fun e w' => ∃ r, e = .returned (.tuple #[.int .i64 r, .bool (decide (LPok k c) && (decide (k = 0) || decide (0 < r)))]) ∧ PLP k c r ∧ Below w.heap.size w w') from impl_LeastPersistent k c w))
                    have HQ2 := Lib.hid (fun w => (show Calls Try.prog 46 #[.int .i64 k, .int .i64 c] w (fun e w' => ∃ r, e = .returned (.tuple #[.int .i64 r, .bool (decide (LPok k c) && (decide (k = 0) || decide (0 < r)))]) ∧ PLP k c r ∧ Below w.heap.size w w') from spec_LeastPersistent k c w))
                    go_wp2_with fail
                    refine (HQ1.out _).mono ?_
                    rintro e w21 ⟨r, rfl, hr, hb⟩
                    have BE21 := Lib.hid (BE20.out.trans (hb.mono BE20.out.size))
                    clear hb
                    go_wp2_with fail
                    refine (HQ2.out _).mono ?_
                    rintro e w22 ⟨t, rfl, ht, hb⟩
                    have BE22 := Lib.hid (BE21.out.trans (hb.mono BE21.out.size))
                    clear hb
                    obtain rfl := hr.same ht
                    have HHA := Lib.hid (fun h => plp_has hr h)
                    obtain ⟨tt, htt⟩ : ∃ tt, tt = (decide (LPok k c) && (decide (k = 0) || decide (0 < r))) := ⟨_, rfl⟩
                    rw [← htt] at HHA ⊢
                    clear htt hr ht
                    cases tt
                    · go_wp2
                      go_ret
                      exact ⟨rfl, BE22.out⟩
                    · have HPE := Lib.hid (fun w => impl_PersistenceOf r c w)
                      rw [HHA.out rfl] at HPE
                      simp only [optRes, Option.getD_some, Option.isSome_some] at HPE
                      go_wp2_with fail
                      refine (HPE.out _).mono ?_
                      rintro e w23 ⟨rfl, hb⟩
                      have BE23 := Lib.hid (BE22.out.trans (hb.mono BE22.out.size))
                      clear hb
                      go_wp2
                      go_ret
                      exact ⟨rfl, BE23.out⟩
            | some x =>
              obtain ⟨a1, a2, a3, a4⟩ := HA1.out x rfl
              subst a1
              have HDP := Lib.hid (fun w => impl_DigitProduct x d w)
              have e1 : askI RDigitProduct x d = some p := by unfold askI; rw [if_pos ⟨a2, a3⟩]; exact congrArg some a4
              rw [e1] at HDP
              simp only [optRes, Option.getD_some, Option.isSome_some] at HDP
              clear a2 a3 a4 e1
              cases ac with
              | none =>
                simp only [optRes, Option.getD_some, Option.isSome_some, Option.getD_none, Option.isSome_none] at HU1 HU2 HU5 HU6
                go_wp2_with fail
                refine (HU1.out _).mono ?_
                rintro e w14 ⟨rfl, hb⟩
                have BE14 := Lib.hid (BE13.out.trans (hb.mono BE13.out.size))
                clear hb
                go_wp2_with fail
                refine (HU2.out _).mono ?_
                rintro e w15 ⟨rfl, hb⟩
                have BE15 := Lib.hid (BE14.out.trans (hb.mono BE14.out.size))
                clear hb
                go_wp2_with fail
                refine (HU3.out _).mono ?_
                rintro e w16 ⟨rfl, hb⟩
                have BE16 := Lib.hid (BE15.out.trans (hb.mono BE15.out.size))
                clear hb
                go_wp2_with fail
                refine (HU4.out _).mono ?_
                rintro e w17 ⟨rfl, hb⟩
                have BE17 := Lib.hid (BE16.out.trans (hb.mono BE16.out.size))
                clear hb
                go_wp2_with fail
                refine (HU5.out _).mono ?_
                rintro e w18 ⟨rfl, hb⟩
                have BE18 := Lib.hid (BE17.out.trans (hb.mono BE17.out.size))
                clear hb
                go_wp2_with fail
                refine (HU6.out _).mono ?_
                rintro e w19 ⟨rfl, hb⟩
                have BE19 := Lib.hid (BE18.out.trans (hb.mono BE18.out.size))
                clear hb
                go_wp2_with fail
                refine (HDP.out _).mono ?_
                rintro e w20 ⟨rfl, hb⟩
                have BE20 := Lib.hid (BE19.out.trans (hb.mono BE19.out.size))
                clear hb
                as_aux_lemma =>
                  go_wp2_with fail
                  refine (draw_LeastPersistent _ xs1 _ (HS1.out.keep BE20.out) HL1.out).mono ?_
                  rintro e y2 ⟨k, c, rfl, hb⟩
                  have BE21 := Lib.hid (BE20.out.trans (hb.mono BE20.out.size))
                  clear hb
                  have HQ1 := Lib.hid (fun w => (show Calls Try.prog 45 #[.int .i64 k, .int .i64 c] w (fun e w' => ∃ r, e = .returned (.tuple #[.int .i64 r, .bool (decide (LPok k c) && (decide (k = 0) || decide (0 < r)))]) ∧ PLP k c r ∧ Below w.heap.size w w') from impl_LeastPersistent k c w))
                  have HQ2 := Lib.hid (fun w => (show Calls Try.prog 46 #[.int .i64 k, .int .i64 c] w (fun e w' => ∃ r, e = .returned (.tuple #[.int .i64 r, .bool (decide (LPok k c) && (decide (k = 0) || decide (0 < r)))]) ∧ PLP k c r ∧ Below w.heap.size w w') from spec_LeastPersistent k c w))
                  go_wp2_with fail
                  refine (HQ1.out _).mono ?_
                  rintro e w22 ⟨r, rfl, hr, hb⟩
                  have BE22 := Lib.hid (BE21.out.trans (hb.mono BE21.out.size))
                  clear hb
                  go_wp2_with fail
                  refine (HQ2.out _).mono ?_
                  rintro e w23 ⟨t, rfl, ht, hb⟩
                  have BE23 := Lib.hid (BE22.out.trans (hb.mono BE22.out.size))
                  clear hb
                  obtain rfl := hr.same ht
                  have HHA := Lib.hid (fun h => plp_has hr h)
                  obtain ⟨tt, htt⟩ : ∃ tt, tt = (decide (LPok k c) && (decide (k = 0) || decide (0 < r))) := ⟨_, rfl⟩
                  rw [← htt] at HHA ⊢
                  clear htt hr ht
                  cases tt
                  · go_wp2
                    go_ret
                    exact ⟨rfl, BE23.out⟩
                  · have HPE := Lib.hid (fun w => impl_PersistenceOf r c w)
                    rw [HHA.out rfl] at HPE
                    simp only [optRes, Option.getD_some, Option.isSome_some] at HPE
                    go_wp2_with fail
                    refine (HPE.out _).mono ?_
                    rintro e w24 ⟨rfl, hb⟩
                    have BE24 := Lib.hid (BE23.out.trans (hb.mono BE23.out.size))
                    clear hb
                    go_wp2
                    go_ret
                    exact ⟨rfl, BE24.out⟩
              | some c =>
                have hsm := HA2.out c rfl
                have hc : 0 < c := of_decide_eq_true hsm.symm
                clear hsm
                simp only [optRes, Option.getD_some, Option.isSome_some, Option.getD_none, Option.isSome_none] at HU1 HU2 HU5 HU6
                go_wp2_with fail
                refine (HU1.out _).mono ?_
                rintro e w14 ⟨rfl, hb⟩
                have BE14 := Lib.hid (BE13.out.trans (hb.mono BE13.out.size))
                clear hb
                go_wp2_with fail
                refine (HU2.out _).mono ?_
                rintro e w15 ⟨rfl, hb⟩
                have BE15 := Lib.hid (BE14.out.trans (hb.mono BE14.out.size))
                clear hb
                go_wp2_with fail
                refine (HU3.out _).mono ?_
                rintro e w16 ⟨rfl, hb⟩
                have BE16 := Lib.hid (BE15.out.trans (hb.mono BE15.out.size))
                clear hb
                go_wp2_with fail
                refine (HU4.out _).mono ?_
                rintro e w17 ⟨rfl, hb⟩
                have BE17 := Lib.hid (BE16.out.trans (hb.mono BE16.out.size))
                clear hb
                go_wp2_with fail
                refine (HU5.out _).mono ?_
                rintro e w18 ⟨rfl, hb⟩
                have BE18 := Lib.hid (BE17.out.trans (hb.mono BE17.out.size))
                clear hb
                go_wp2_with fail
                refine (HU6.out _).mono ?_
                rintro e w19 ⟨rfl, hb⟩
                have BE19 := Lib.hid (BE18.out.trans (hb.mono BE18.out.size))
                clear hb
                go_wp2_with fail
                refine (HDP.out _).mono ?_
                rintro e w20 ⟨rfl, hb⟩
                have BE20 := Lib.hid (BE19.out.trans (hb.mono BE19.out.size))
                clear hb
                as_aux_lemma =>
                  go_wp2_with fail
                  refine (draw_LeastPersistent _ xs1 _ (HS1.out.keep BE20.out) HL1.out).mono ?_
                  rintro e y2 ⟨k, c, rfl, hb⟩
                  have BE21 := Lib.hid (BE20.out.trans (hb.mono BE20.out.size))
                  clear hb
                  have HQ1 := Lib.hid (fun w => (show Calls Try.prog 45 #[.int .i64 k, .int .i64 c] w (fun e w' => ∃ r, e = .returned (.tuple #[.int .i64 r, .bool (decide (LPok k c) && (decide (k = 0) || decide (0 < r)))]) ∧ PLP k c r ∧ Below w.heap.size w w') from impl_LeastPersistent k c w))
                  have HQ2 := Lib.hid (fun w => (show Calls Try.prog 46 #[.int .i64 k, .int .i64 c] w (fun e w' => ∃ r, e = .returned (.tuple #[.int .i64 r, .bool (decide (LPok k c) && (decide (k = 0) || decide (0 < r)))]) ∧ PLP k c r ∧ Below w.heap.size w w') from spec_LeastPersistent k c w))
                  go_wp2_with fail
                  refine (HQ1.out _).mono ?_
                  rintro e w22 ⟨r, rfl, hr, hb⟩
                  have BE22 := Lib.hid (BE21.out.trans (hb.mono BE21.out.size))
                  clear hb
                  go_wp2_with fail
                  refine (HQ2.out _).mono ?_
                  rintro e w23 ⟨t, rfl, ht, hb⟩
                  have BE23 := Lib.hid (BE22.out.trans (hb.mono BE22.out.size))
                  clear hb
                  obtain rfl := hr.same ht
                  have HHA := Lib.hid (fun h => plp_has hr h)
                  obtain ⟨tt, htt⟩ : ∃ tt, tt = (decide (LPok k c) && (decide (k = 0) || decide (0 < r))) := ⟨_, rfl⟩
                  rw [← htt] at HHA ⊢
                  clear htt hr ht
                  cases tt
                  · go_wp2
                    go_ret
                    exact ⟨rfl, BE23.out⟩
                  · have HPE := Lib.hid (fun w => impl_PersistenceOf r c w)
                    rw [HHA.out rfl] at HPE
                    simp only [optRes, Option.getD_some, Option.isSome_some] at HPE
                    go_wp2_with fail
                    refine (HPE.out _).mono ?_
                    rintro e w24 ⟨rfl, hb⟩
                    have BE24 := Lib.hid (BE23.out.trans (hb.mono BE23.out.size))
                    clear hb
                    go_wp2
                    go_ret
                    exact ⟨rfl, BE24.out⟩
  · skip
    have e1 : askL pru n b = [] := if_neg hq
    have e2 : askI RPersistenceOf n b = none := if_neg hq
    have e3 : askI RProductRoot n b = none := if_neg hq
    have e4 : okq n b = false := okq_no hq
    rw [e1, e4] at HI1 HT1
    rw [e2] at HI2 HT2
    rw [e3] at HI3 HT3
    simp only [optRes, Option.getD_none, Option.isSome_none] at HI2 HT2 HI3 HT3
    clear e1 e2 e3 e4 hq
    go_wp2_with fail
    refine (HI1.out _).mono ?_
    rintro e w2 ⟨uD, rfl, hr, hb⟩
    have BE2 := Lib.hid (BE1.out.trans (hb.mono BE1.out.size))
    have R1 := Lib.hid hr
    clear hr hb
    go_wp2_with fail
    refine (HT1.out _).mono ?_
    rintro e w3 ⟨uE, rfl, hr, hb⟩
    have R2 := Lib.hid (R1.out.keep hb)
    have BE3 := Lib.hid (BE2.out.trans (hb.mono BE2.out.size))
    have R3 := Lib.hid hr
    clear hr hb
    go_wp2_with fail
    refine (HI2.out _).mono ?_
    rintro e w4 ⟨rfl, hb⟩
    have R4 := Lib.hid (R2.out.keep hb)
    have R5 := Lib.hid (R3.out.keep hb)
    have BE4 := Lib.hid (BE3.out.trans (hb.mono BE3.out.size))
    clear hb
    go_wp2_with fail
    refine (HT2.out _).mono ?_
    rintro e w5 ⟨rfl, hb⟩
    have R6 := Lib.hid (R4.out.keep hb)
    have R7 := Lib.hid (R5.out.keep hb)
    have BE5 := Lib.hid (BE4.out.trans (hb.mono BE4.out.size))
    clear hb
    go_wp2_with fail
    refine (HI3.out _).mono ?_
    rintro e w6 ⟨rfl, hb⟩
    have R8 := Lib.hid (R6.out.keep hb)
    have R9 := Lib.hid (R7.out.keep hb)
    have BE6 := Lib.hid (BE5.out.trans (hb.mono BE5.out.size))
    clear hb
    go_wp2_with fail
    refine (HT3.out _).mono ?_
    rintro e w7 ⟨rfl, hb⟩
    have R10 := Lib.hid (R8.out.keep hb)
    have R11 := Lib.hid (R9.out.keep hb)
    have BE7 := Lib.hid (BE6.out.trans (hb.mono BE6.out.size))
    clear hb
    go_wp2_with fail
    refine (qSame_any _ _ [] _ R10.out.sl R11.out.sl (by simp)).mono ?_
    rintro e w8 ⟨rfl, hb⟩
    have R12 := Lib.hid (R10.out.keep hb)
    have R13 := Lib.hid (R11.out.keep hb)
    have BE8 := Lib.hid (BE7.out.trans (hb.mono BE7.out.size))
    clear hb
    as_aux_lemma =>
      go_wp2_with fail
      refine (draw_LeastWithProduct _ xs1 _ (HS1.out.keep BE8.out) HL1.out).mono ?_
      rintro e y1 ⟨p, d, rfl, hb⟩
      have BE9 := Lib.hid (BE8.out.trans (hb.mono BE8.out.size))
      clear hb
      have HU1 := Lib.hid (fun w => impl_LeastWithProduct p d w)
      have HU2 := Lib.hid (fun w => spec_LeastWithProduct p d w)
      have HU3 := Lib.hid (fun w => impl_IsSmooth p d w)
      have HU4 := Lib.hid (fun w => spec_IsSmooth p d w)
      have HU5 := Lib.hid (fun w => impl_CountWithProduct p d w)
      have HU6 := Lib.hid (fun w => spec_CountWithProduct p d w)
      have HA1 := Lib.hid (fun x (h : ansL p d = some x) => ansL_has h)
      have HA2 := Lib.hid (fun x (h : ansC p d = some x) => ansC_has h)
      obtain ⟨al, hal⟩ : ∃ al, al = ansL p d := ⟨_, rfl⟩
      obtain ⟨ac, hac⟩ : ∃ ac, ac = ansC p d := ⟨_, rfl⟩
      obtain ⟨sm, hsm⟩ : ∃ sm, sm = RIsSmooth p d := ⟨_, rfl⟩
      obtain ⟨oq, hoq⟩ : ∃ oq, oq = okq p d := ⟨_, rfl⟩
      rw [← hal] at HU1 HU2 HA1
      rw [← hac] at HU5 HU6 HA2
      rw [← hsm] at HU3 HU4 HA1 HA2
      rw [← hoq] at HU3 HU4
      clear hal hac hsm hoq
      cases al with
      | none =>
        cases ac with
        | none =>
          simp only [optRes, Option.getD_some, Option.isSome_some, Option.getD_none, Option.isSome_none] at HU1 HU2 HU5 HU6
          go_wp2_with fail
          refine (HU1.out _).mono ?_
          rintro e w10 ⟨rfl, hb⟩
          have BE10 := Lib.hid (BE9.out.trans (hb.mono BE9.out.size))
          clear hb
          go_wp2_with fail
          refine (HU2.out _).mono ?_
          rintro e w11 ⟨rfl, hb⟩
          have BE11 := Lib.hid (BE10.out.trans (hb.mono BE10.out.size))
          clear hb
          go_wp2_with fail
          refine (HU3.out _).mono ?_
          rintro e w12 ⟨rfl, hb⟩
          have BE12 := Lib.hid (BE11.out.trans (hb.mono BE11.out.size))
          clear hb
          go_wp2_with fail
          refine (HU4.out _).mono ?_
          rintro e w13 ⟨rfl, hb⟩
          have BE13 := Lib.hid (BE12.out.trans (hb.mono BE12.out.size))
          clear hb
          go_wp2_with fail
          refine (HU5.out _).mono ?_
          rintro e w14 ⟨rfl, hb⟩
          have BE14 := Lib.hid (BE13.out.trans (hb.mono BE13.out.size))
          clear hb
          go_wp2_with fail
          refine (HU6.out _).mono ?_
          rintro e w15 ⟨rfl, hb⟩
          have BE15 := Lib.hid (BE14.out.trans (hb.mono BE14.out.size))
          clear hb
          as_aux_lemma =>
            go_wp2_with fail
            refine (draw_LeastPersistent _ xs1 _ (HS1.out.keep BE15.out) HL1.out).mono ?_
            rintro e y2 ⟨k, c, rfl, hb⟩
            have BE16 := Lib.hid (BE15.out.trans (hb.mono BE15.out.size))
            clear hb
            have HQ1 := Lib.hid (fun w => (show Calls Try.prog 45 #[.int .i64 k, .int .i64 c] w (fun e w' => ∃ r, e = .returned (.tuple #[.int .i64 r, .bool (decide (LPok k c) && (decide (k = 0) || decide (0 < r)))]) ∧ PLP k c r ∧ Below w.heap.size w w') from impl_LeastPersistent k c w))
            have HQ2 := Lib.hid (fun w => (show Calls Try.prog 46 #[.int .i64 k, .int .i64 c] w (fun e w' => ∃ r, e = .returned (.tuple #[.int .i64 r, .bool (decide (LPok k c) && (decide (k = 0) || decide (0 < r)))]) ∧ PLP k c r ∧ Below w.heap.size w w') from spec_LeastPersistent k c w))
            go_wp2_with fail
            refine (HQ1.out _).mono ?_
            rintro e w17 ⟨r, rfl, hr, hb⟩
            have BE17 := Lib.hid (BE16.out.trans (hb.mono BE16.out.size))
            clear hb
            go_wp2_with fail
            refine (HQ2.out _).mono ?_
            rintro e w18 ⟨t, rfl, ht, hb⟩
            have BE18 := Lib.hid (BE17.out.trans (hb.mono BE17.out.size))
            clear hb
            obtain rfl := hr.same ht
            have HHA := Lib.hid (fun h => plp_has hr h)
            obtain ⟨tt, htt⟩ : ∃ tt, tt = (decide (LPok k c) && (decide (k = 0) || decide (0 < r))) := ⟨_, rfl⟩
            rw [← htt] at HHA ⊢
            clear htt hr ht
            cases tt
            · go_wp2
              go_ret
              exact ⟨rfl, BE18.out⟩
            · have HPE := Lib.hid (fun w => impl_PersistenceOf r c w)
              rw [HHA.out rfl] at HPE
              simp only [optRes, Option.getD_some, Option.isSome_some] at HPE
              go_wp2_with fail
              refine (HPE.out _).mono ?_
              rintro e w19 ⟨rfl, hb⟩
              have BE19 := Lib.hid (BE18.out.trans (hb.mono BE18.out.size))
              clear hb
              go_wp2
              go_ret
              exact ⟨rfl, BE19.out⟩
        | some c =>
          have hsm := HA2.out c rfl
          by_cases hc : 0 < c
          · rw [decide_eq_true hc] at hsm
            subst hsm
            simp only [optRes, Option.getD_some, Option.isSome_some, Option.getD_none, Option.isSome_none] at HU1 HU2 HU5 HU6
            go_wp2_with fail
            refine (HU1.out _).mono ?_
            rintro e w10 ⟨rfl, hb⟩
            have BE10 := Lib.hid (BE9.out.trans (hb.mono BE9.out.size))
            clear hb
            go_wp2_with fail
            refine (HU2.out _).mono ?_
            rintro e w11 ⟨rfl, hb⟩
            have BE11 := Lib.hid (BE10.out.trans (hb.mono BE10.out.size))
            clear hb
            go_wp2_with fail
            refine (HU3.out _).mono ?_
            rintro e w12 ⟨rfl, hb⟩
            have BE12 := Lib.hid (BE11.out.trans (hb.mono BE11.out.size))
            clear hb
            go_wp2_with fail
            refine (HU4.out _).mono ?_
            rintro e w13 ⟨rfl, hb⟩
            have BE13 := Lib.hid (BE12.out.trans (hb.mono BE12.out.size))
            clear hb
            go_wp2_with fail
            refine (HU5.out _).mono ?_
            rintro e w14 ⟨rfl, hb⟩
            have BE14 := Lib.hid (BE13.out.trans (hb.mono BE13.out.size))
            clear hb
            go_wp2_with fail
            refine (HU6.out _).mono ?_
            rintro e w15 ⟨rfl, hb⟩
            have BE15 := Lib.hid (BE14.out.trans (hb.mono BE14.out.size))
            clear hb
            as_aux_lemma =>
              go_wp2_with fail
              refine (draw_LeastPersistent _ xs1 _ (HS1.out.keep BE15.out) HL1.out).mono ?_
              rintro e y2 ⟨k, c, rfl, hb⟩
              have BE16 := Lib.hid (BE15.out.trans (hb.mono BE15.out.size))
              clear hb
              have HQ1 := Lib.hid (fun w => (show Calls Try.prog 45 #[.int .i64 k, .int .i64 c] w (fun e w' => ∃ r, e = .returned (.tuple #[.int .i64 r, .bool (decide (LPok k c) && (decide (k = 0) || decide (0 < r)))]) ∧ PLP k c r ∧ Below w.heap.size w w') from impl_LeastPersistent k c w))
              have HQ2 := Lib.hid (fun w => (show Calls Try.prog 46 #[.int .i64 k, .int .i64 c] w (fun e w' => ∃ r, e = .returned (.tuple #[.int .i64 r, .bool (decide (LPok k c) && (decide (k = 0) || decide (0 < r)))]) ∧ PLP k c r ∧ Below w.heap.size w w') from spec_LeastPersistent k c w))
              go_wp2_with fail
              refine (HQ1.out _).mono ?_
              rintro e w17 ⟨r, rfl, hr, hb⟩
              have BE17 := Lib.hid (BE16.out.trans (hb.mono BE16.out.size))
              clear hb
              go_wp2_with fail
              refine (HQ2.out _).mono ?_
              rintro e w18 ⟨t, rfl, ht, hb⟩
              have BE18 := Lib.hid (BE17.out.trans (hb.mono BE17.out.size))
              clear hb
              obtain rfl := hr.same ht
              have HHA := Lib.hid (fun h => plp_has hr h)
              obtain ⟨tt, htt⟩ : ∃ tt, tt = (decide (LPok k c) && (decide (k = 0) || decide (0 < r))) := ⟨_, rfl⟩
              rw [← htt] at HHA ⊢
              clear htt hr ht
              cases tt
              · go_wp2
                go_ret
                exact ⟨rfl, BE18.out⟩
              · have HPE := Lib.hid (fun w => impl_PersistenceOf r c w)
                rw [HHA.out rfl] at HPE
                simp only [optRes, Option.getD_some, Option.isSome_some] at HPE
                go_wp2_with fail
                refine (HPE.out _).mono ?_
                rintro e w19 ⟨rfl, hb⟩
                have BE19 := Lib.hid (BE18.out.trans (hb.mono BE18.out.size))
                clear hb
                go_wp2
                go_ret
                exact ⟨rfl, BE19.out⟩
          · rw [decide_eq_false hc] at hsm
            subst hsm
            simp only [optRes, Option.getD_some, Option.isSome_some, Option.getD_none, Option.isSome_none] at HU1 HU2 HU5 HU6
            go_wp2_with fail
            refine (HU1.out _).mono ?_
            rintro e w10 ⟨rfl, hb⟩
            have BE10 := Lib.hid (BE9.out.trans (hb.mono BE9.out.size))
            clear hb
            go_wp2_with fail
            refine (HU2.out _).mono ?_
            rintro e w11 ⟨rfl, hb⟩
            have BE11 := Lib.hid (BE10.out.trans (hb.mono BE10.out.size))
            clear hb
            go_wp2_with fail
            refine (HU3.out _).mono ?_
            rintro e w12 ⟨rfl, hb⟩
            have BE12 := Lib.hid (BE11.out.trans (hb.mono BE11.out.size))
            clear hb
            go_wp2_with fail
            refine (HU4.out _).mono ?_
            rintro e w13 ⟨rfl, hb⟩
            have BE13 := Lib.hid (BE12.out.trans (hb.mono BE12.out.size))
            clear hb
            go_wp2_with fail
            refine (HU5.out _).mono ?_
            rintro e w14 ⟨rfl, hb⟩
            have BE14 := Lib.hid (BE13.out.trans (hb.mono BE13.out.size))
            clear hb
            go_wp2_with fail
            refine (HU6.out _).mono ?_
            rintro e w15 ⟨rfl, hb⟩
            have BE15 := Lib.hid (BE14.out.trans (hb.mono BE14.out.size))
            clear hb
            as_aux_lemma =>
              go_wp2_with fail
              refine (draw_LeastPersistent _ xs1 _ (HS1.out.keep BE15.out) HL1.out).mono ?_
              rintro e y2 ⟨k, c, rfl, hb⟩
              have BE16 := Lib.hid (BE15.out.trans (hb.mono BE15.out.size))
              clear hb
              have HQ1 := Lib.hid (fun w => (show Calls Try.prog 45 #[.int .i64 k, .int .i64 c] w (fun e w' => ∃ r, e = .returned (.tuple #[.int .i64 r, .bool (decide (LPok k c) && (decide (k = 0) || decide (0 < r)))]) ∧ PLP k c r ∧ Below w.heap.size w w') from impl_LeastPersistent k c w))
              have HQ2 := Lib.hid (fun w => (show Calls Try.prog 46 #[.int .i64 k, .int .i64 c] w (fun e w' => ∃ r, e = .returned (.tuple #[.int .i64 r, .bool (decide (LPok k c) && (decide (k = 0) || decide (0 < r)))]) ∧ PLP k c r ∧ Below w.heap.size w w') from spec_LeastPersistent k c w))
              go_wp2_with fail
              refine (HQ1.out _).mono ?_
              rintro e w17 ⟨r, rfl, hr, hb⟩
              have BE17 := Lib.hid (BE16.out.trans (hb.mono BE16.out.size))
              clear hb
              go_wp2_with fail
              refine (HQ2.out _).mono ?_
              rintro e w18 ⟨t, rfl, ht, hb⟩
              have BE18 := Lib.hid (BE17.out.trans (hb.mono BE17.out.size))
              clear hb
              obtain rfl := hr.same ht
              have HHA := Lib.hid (fun h => plp_has hr h)
              obtain ⟨tt, htt⟩ : ∃ tt, tt = (decide (LPok k c) && (decide (k = 0) || decide (0 < r))) := ⟨_, rfl⟩
              rw [← htt] at HHA ⊢
              clear htt hr ht
              cases tt
              · go_wp2
                go_ret
                exact ⟨rfl, BE18.out⟩
              · have HPE := Lib.hid (fun w => impl_PersistenceOf r c w)
                rw [HHA.out rfl] at HPE
                simp only [optRes, Option.getD_some, Option.isSome_some] at HPE
                go_wp2_with fail
                refine (HPE.out _).mono ?_
                rintro e w19 ⟨rfl, hb⟩
                have BE19 := Lib.hid (BE18.out.trans (hb.mono BE18.out.size))
                clear hb
                go_wp2
                go_ret
                exact ⟨rfl, BE19.out⟩
      | some x =>
        obtain ⟨a1, a2, a3, a4⟩ := HA1.out x rfl
        subst a1
        have HDP := Lib.hid (fun w => impl_DigitProduct x d w)
        have e1 : askI RDigitProduct x d = some p := by unfold askI; rw [if_pos ⟨a2, a3⟩]; exact congrArg some a4
        rw [e1] at HDP
        simp only [optRes, Option.getD_some, Option.isSome_some] at HDP
        clear a2 a3 a4 e1
        cases ac with
        | none =>
          simp only [optRes, Option.getD_some, Option.isSome_some, Option.getD_none, Option.isSome_none] at HU1 HU2 HU5 HU6
          go_wp2_with fail
          refine (HU1.out _).mono ?_
          rintro e w10 ⟨rfl, hb⟩
          have BE10 := Lib.hid (BE9.out.trans (hb.mono BE9.out.size))
          clear hb
          go_wp2_with fail
          refine (HU2.out _).mono ?_
          rintro e w11 ⟨rfl, hb⟩
          have BE11 := Lib.hid (BE10.out.trans (hb.mono BE10.out.size))
          clear hb
          go_wp2_with fail
          refine (HU3.out _).mono ?_
          rintro e w12 ⟨rfl, hb⟩
          have BE12 := Lib.hid (BE11.out.trans (hb.mono BE11.out.size))
          clear hb
          go_wp2_with fail
          refine (HU4.out _).mono ?_
          rintro e w13 ⟨rfl, hb⟩
          have BE13 := Lib.hid (BE12.out.trans (hb.mono BE12.out.size))
          clear hb
          go_wp2_with fail
          refine (HU5.out _).mono ?_
          rintro e w14 ⟨rfl, hb⟩
          have BE14 := Lib.hid (BE13.out.trans (hb.mono BE13.out.size))
          clear hb
          go_wp2_with fail
          refine (HU6.out _).mono ?_
          rintro e w15 ⟨rfl, hb⟩
          have BE15 := Lib.hid (BE14.out.trans (hb.mono BE14.out.size))
          clear hb
          go_wp2_with fail
          refine (HDP.out _).mono ?_
          rintro e w16 ⟨rfl, hb⟩
          have BE16 := Lib.hid (BE15.out.trans (hb.mono BE15.out.size))
          clear hb
          as_aux_lemma =>
            go_wp2_with fail
            refine (draw_LeastPersistent _ xs1 _ (HS1.out.keep BE16.out) HL1.out).mono ?_
            rintro e y2 ⟨k, c, rfl, hb⟩
            have BE17 := Lib.hid (BE16.out.trans (hb.mono BE16.out.size))
            clear hb
            have HQ1 := Lib.hid (fun w => (show Calls Try.prog 45 #[.int .i64 k, .int .i64 c] w (fun e w' => ∃ r, e = .returned (.tuple #[.int .i64 r, .bool (decide (LPok k c) && (decide (k = 0) || decide (0 < r)))]) ∧ PLP k c r ∧ Below w.heap.size w w') from impl_LeastPersistent k c w))
            have HQ2 := Lib.hid (fun w => (show Calls Try.prog 46 #[.int .i64 k, .int .i64 c] w (fun e w' => ∃ r, e = .returned (.tuple #[.int .i64 r, .bool (decide (LPok k c) && (decide (k = 0) || decide (0 < r)))]) ∧ PLP k c r ∧ Below w.heap.size w w') from spec_LeastPersistent k c w))
            go_wp2_with fail
            refine (HQ1.out _).mono ?_
            rintro e w18 ⟨r, rfl, hr, hb⟩
            have BE18 := Lib.hid (BE17.out.trans (hb.mono BE17.out.size))
            clear hb
            go_wp2_with fail
            refine (HQ2.out _).mono ?_
            rintro e w19 ⟨t, rfl, ht, hb⟩
            have BE19 := Lib.hid (BE18.out.trans (hb.mono BE18.out.size))
            clear hb
            obtain rfl := hr.same ht
            have HHA := Lib.hid (fun h => plp_has hr h)
            obtain ⟨tt, htt⟩ : ∃ tt, tt = (decide (LPok k c) && (decide (k = 0) || decide (0 < r))) := ⟨_, rfl⟩
            rw [← htt] at HHA ⊢
            clear htt hr ht
            cases tt
            · go_wp2
              go_ret
              exact ⟨rfl, BE19.out⟩
            · have HPE := Lib.hid (fun w => impl_PersistenceOf r c w)
              rw [HHA.out rfl] at HPE
              simp only [optRes, Option.getD_some, Option.isSome_some] at HPE
              go_wp2_with fail
              refine (HPE.out _).mono ?_
              rintro e w20 ⟨rfl, hb⟩
              have BE20 := Lib.hid (BE19.out.trans (hb.mono BE19.out.size))
              clear hb
              go_wp2
              go_ret
              exact ⟨rfl, BE20.out⟩
        | some c =>
          have hsm := HA2.out c rfl
          have hc : 0 < c := of_decide_eq_true hsm.symm
          clear hsm
          simp only [optRes, Option.getD_some, Option.isSome_some, Option.getD_none, Option.isSome_none] at HU1 HU2 HU5 HU6
          go_wp2_with fail
          refine (HU1.out _).mono ?_
          rintro e w10 ⟨rfl, hb⟩
          have BE10 := Lib.hid (BE9.out.trans (hb.mono BE9.out.size))
          clear hb
          go_wp2_with fail
          refine (HU2.out _).mono ?_
          rintro e w11 ⟨rfl, hb⟩
          have BE11 := Lib.hid (BE10.out.trans (hb.mono BE10.out.size))
          clear hb
          go_wp2_with fail
          refine (HU3.out _).mono ?_
          rintro e w12 ⟨rfl, hb⟩
          have BE12 := Lib.hid (BE11.out.trans (hb.mono BE11.out.size))
          clear hb
          go_wp2_with fail
          refine (HU4.out _).mono ?_
          rintro e w13 ⟨rfl, hb⟩
          have BE13 := Lib.hid (BE12.out.trans (hb.mono BE12.out.size))
          clear hb
          go_wp2_with fail
          refine (HU5.out _).mono ?_
          rintro e w14 ⟨rfl, hb⟩
          have BE14 := Lib.hid (BE13.out.trans (hb.mono BE13.out.size))
          clear hb
          go_wp2_with fail
          refine (HU6.out _).mono ?_
          rintro e w15 ⟨rfl, hb⟩
          have BE15 := Lib.hid (BE14.out.trans (hb.mono BE14.out.size))
          clear hb
          go_wp2_with fail
          refine (HDP.out _).mono ?_
          rintro e w16 ⟨rfl, hb⟩
          have BE16 := Lib.hid (BE15.out.trans (hb.mono BE15.out.size))
          clear hb
          as_aux_lemma =>
            go_wp2_with fail
            refine (draw_LeastPersistent _ xs1 _ (HS1.out.keep BE16.out) HL1.out).mono ?_
            rintro e y2 ⟨k, c, rfl, hb⟩
            have BE17 := Lib.hid (BE16.out.trans (hb.mono BE16.out.size))
            clear hb
            have HQ1 := Lib.hid (fun w => (show Calls Try.prog 45 #[.int .i64 k, .int .i64 c] w (fun e w' => ∃ r, e = .returned (.tuple #[.int .i64 r, .bool (decide (LPok k c) && (decide (k = 0) || decide (0 < r)))]) ∧ PLP k c r ∧ Below w.heap.size w w') from impl_LeastPersistent k c w))
            have HQ2 := Lib.hid (fun w => (show Calls Try.prog 46 #[.int .i64 k, .int .i64 c] w (fun e w' => ∃ r, e = .returned (.tuple #[.int .i64 r, .bool (decide (LPok k c) && (decide (k = 0) || decide (0 < r)))]) ∧ PLP k c r ∧ Below w.heap.size w w') from spec_LeastPersistent k c w))
            go_wp2_with fail
            refine (HQ1.out _).mono ?_
            rintro e w18 ⟨r, rfl, hr, hb⟩
            have BE18 := Lib.hid (BE17.out.trans (hb.mono BE17.out.size))
            clear hb
            go_wp2_with fail
            refine (HQ2.out _).mono ?_
            rintro e w19 ⟨t, rfl, ht, hb⟩
            have BE19 := Lib.hid (BE18.out.trans (hb.mono BE18.out.size))
            clear hb
            obtain rfl := hr.same ht
            have HHA := Lib.hid (fun h => plp_has hr h)
            obtain ⟨tt, htt⟩ : ∃ tt, tt = (decide (LPok k c) && (decide (k = 0) || decide (0 < r))) := ⟨_, rfl⟩
            rw [← htt] at HHA ⊢
            clear htt hr ht
            cases tt
            · go_wp2
              go_ret
              exact ⟨rfl, BE19.out⟩
            · have HPE := Lib.hid (fun w => impl_PersistenceOf r c w)
              rw [HHA.out rfl] at HPE
              simp only [optRes, Option.getD_some, Option.isSome_some] at HPE
              go_wp2_with fail
              refine (HPE.out _).mono ?_
              rintro e w20 ⟨rfl, hb⟩
              have BE20 := Lib.hid (BE19.out.trans (hb.mono BE19.out.size))
              clear hb
              go_wp2
              go_ret
              exact ⟨rfl, BE20.out⟩

end Go.Proofs.Ytgiabadkbfbilaa
