/-
  The law of periods of fractions (written by wip/tools/gen_4q.py).
-/
import Derived.Test.Ytgiabadkbfbilaa4P
import Derived.Test.Ytgiabadkbfbilaa0D
import Derived.Deep.QuietTactic
import Derived.BigQuiet
namespace Go.Proofs.Ytgiabadkbfbilaa
open Go.RowKit
set_option linter.unusedVariables false
set_option linter.unusedSimpArgs false
set_option maxRecDepth 100000

theorem below_drewP {B : Nat} {a w : World} (h : Below B a w) (n : Nat) : Below B a (w.drewN n) := ⟨h.1, h.2, h.3, h.4, h.5⟩

set_option maxHeartbeats 20000000 in
theorem law_PeriodsOfFractions {W : World} (v0 : Value) (xs0 : List Int) (hs0 : Sb W v0 xs0) (v1 : Value) (xs1 : List Int) (hs1 : Sb W v1 xs1) :
    Calls Try.prog 5 #[v0, v1] W fun e w' => e = .returned (.bool true) ∧ Below W.heap.size W w' := by
  obtain ⟨a0, k0, rfl⟩ := hs0.len
  obtain ⟨a1, k1, rfl⟩ := hs1.len
  have HS0 := Lib.hid hs0
  have HS1 := Lib.hid hs1
  have HB := Lib.hid (big_any a0 a1 xs0.length xs1.length k0 k1 W)
  clear hs0 hs1
  by_cases hbig : 1048576 < xs0.length ∨ 1048576 < xs0.length + xs1.length
  · rw [decide_eq_true hbig] at HB
    go_enter Try.func5, Try.ntmps5
    go_wp2_with (go_at_call 6; refine HB.out.mono ?_; rintro e w ⟨rfl, rfl⟩)
    go_ret
    exact ⟨rfl, Below.refl _ _⟩
  rw [decide_eq_false hbig] at HB
  have hl0 : xs0.length ≤ 1048576 := by omega
  have hl1 : xs1.length ≤ 1048576 := by omega
  have HL1 := Lib.hid hl1
  clear hbig
  go_enter Try.func5, Try.ntmps5
  go_wp2_with fail
  refine HB.out.mono ?_
  rintro e w ⟨rfl, rfl⟩
  go_wp2_with fail
  refine (draw_PeriodOf _ xs0 _ HS0.out hl0).mono ?_
  rintro e w1 ⟨a, n, b, rfl, hb⟩
  have BE1 := Lib.hid hb
  clear hb hl0 hl1
  have HI1 := Lib.hid (fun w => impl_PeriodOf a n b w)
  have HT1 := Lib.hid (fun w => spec_PeriodOf a n b w)
  have HI2 := Lib.hid (fun w => impl_RepetendOf a n b w)
  have HT2 := Lib.hid (fun w => spec_RepetendOf a n b w)
  have HRL := Lib.hid (LF_RepetendOf_len a n b)
  simp only [resP, optRes] at HI1 HT1
  by_cases hF : Frc a n b
  · skip
    obtain ⟨A, N, B, rfl, rfl, rfl, hN0, hN2, hB0, hB16, hAN, hB2⟩ := hF.nats
    have HFR := Lib.hid hF
    have HFA := Lib.hid (show 0 < B ∧ 0 < N ∧ A < N from ⟨hB0, hN0, hAN⟩)
    rw [per_at hB2 hB16 hN0 hN2 hAN] at HI1 HT1
    simp only [Option.getD_some, Option.isSome_some] at HI1 HT1
    obtain ⟨pb1, pb2, pb3⟩ := per_bd (a := A) hB0 hN0 hAN
    have HCP := Lib.hid (fun h1 h2 => per_coprime (a := A) (b := B) hN0 h1 h2)
    have HOB := Lib.hid (fun (h : Nat.gcd B N = 1) => (ord_spec (b := B) h hN0).2.1)
    obtain ⟨p0, hp0⟩ : ∃ p0, p0 = pB A N B := ⟨_, rfl⟩
    obtain ⟨p1, hp1⟩ : ∃ p1, p1 = pA A N B := ⟨_, rfl⟩
    have HP0 := Lib.hid hp0
    have HP1 := Lib.hid hp1
    rw [← hp0, ← hp1] at HI1 HT1 HCP
    rw [← hp1] at pb1 pb2
    rw [← hp0] at pb3
    clear hp0 hp1 hF
    go_wp2_with fail
    refine (HI1.out _).mono ?_
    rintro e w2 ⟨rfl, hb⟩
    have BE2 := Lib.hid (BE1.out.trans (hb.mono BE1.out.size))
    clear hb
    go_wp2_with fail
    refine (HT1.out _).mono ?_
    rintro e w3 ⟨rfl, hb⟩
    have BE3 := Lib.hid (BE2.out.trans (hb.mono BE2.out.size))
    clear hb
    go_wp2_with fail
    refine (HI2.out _).mono ?_
    rintro e w4 ⟨uZ, rfl, hr, hb⟩
    have BE4 := Lib.hid (BE3.out.trans (hb.mono BE3.out.size))
    have R1 := Lib.hid hr
    clear hr hb
    go_wp2_with fail
    refine (HT2.out _).mono ?_
    rintro e w5 ⟨uX, rfl, hr, hb⟩
    have R2 := Lib.hid (R1.out.keep hb)
    have BE5 := Lib.hid (BE4.out.trans (hb.mono BE4.out.size))
    have R3 := Lib.hid hr
    clear hr hb
    obtain ⟨okr, hokr⟩ : ∃ okr, okr = OK_RepetendOf (A : Int) (N : Int) (B : Int) := ⟨_, rfl⟩
    rw [← hokr]
    have HKR := Lib.hid hokr
    clear hokr
    go_wp2_with fail
    refine (qSame_any _ _ _ _ R2.out.sl R3.out.sl HRL.out).mono ?_
    rintro e w6 ⟨rfl, hb⟩
    have R4 := Lib.hid (R2.out.keep hb)
    have R5 := Lib.hid (R3.out.keep hb)
    have BE6 := Lib.hid (BE5.out.trans (hb.mono BE5.out.size))
    clear hb
    have HOI := Lib.hid (fun w => impl_OrderOf (N : Int) (B : Int) w)
    rw [ord_at hB2 hB16 hN0 hN2] at HOI
    have HG1 := Lib.hid (fun w => qGcd_any N B w (by omega) (by omega))
    have HG2 := Lib.hid (fun w => qGcd_any A N w (by omega) (by omega))
    by_cases hg : Nat.gcd B N = 1
    · rw [if_pos hg] at HOI
      simp only [optRes, Option.getD_some, Option.isSome_some] at HOI
      rw [Nat.gcd_comm N B, hg] at HG1
      have hOB := HOB.out hg
      have HCQ := Lib.hid (HCP.out hg)
      obtain ⟨O, hO⟩ : ∃ O, O = ordN B N := ⟨_, rfl⟩
      rw [← hO] at HOI hOB HCQ
      obtain ⟨q, hq⟩ : ∃ q, q = Nat.gcd A N := ⟨_, rfl⟩
      rw [← hq] at HG2 HCQ
      clear hO hq hg HOB HCP
      have hOn : ¬ (N : Int) < (O : Int) := by omega
      have hqle : q ≤ 100000 ∨ 100000 < q := by omega
      cases okr
      · skip
        go_wp2_with fail
        refine (HOI.out _).mono ?_
        rintro e w7 ⟨rfl, hb⟩
        have R6 := Lib.hid (R4.out.keep hb)
        have BE7 := Lib.hid (BE6.out.trans (hb.mono BE6.out.size))
        clear hb
        go_wp2_with fail
        refine (HG1.out _).mono ?_
        rintro e w8 ⟨rfl, hb⟩
        have R7 := Lib.hid (R6.out.keep hb)
        have BE8 := Lib.hid (BE7.out.trans (hb.mono BE7.out.size))
        clear hb
        go_wp2_with fail
        refine (HG2.out _).mono ?_
        rintro e w9 ⟨rfl, hb⟩
        have R8 := Lib.hid (R7.out.keep hb)
        have BE9 := Lib.hid (BE8.out.trans (hb.mono BE8.out.size))
        clear hb
        by_cases hq1 : q = 1
        · obtain ⟨c1, c2⟩ := HCQ.out hq1
          have d1 : ((q : Int) == 1) = true := by rw [hq1]; rfl
          have d2 : ((p0 : Int) == 0) = true := by rw [c1]; rfl
          have d3 : ((p0 : Int) != 0) = false := by rw [c1]; rfl
          have d4 : ((p1 : Int) == (O : Int)) = true := by rw [c2]; simp
          have d5 : ((p1 : Int) != (O : Int)) = false := by rw [c2]; simp
          clear c1 c2 hq1 HCQ hqle
          as_aux_lemma =>
            by_cases h2 : p0 + 2 * p1 ≤ 200
            · have h2i : (p0 : Int) + 2 * (p1 : Int) ≤ 200 := by omega
              have HFD := Lib.hid (fun w => impl_FractionDigits (A : Int) (N : Int) (B : Int) ((p0 : Int) + 2 * (p1 : Int)) w)
              have hfr : Frc (A : Int) (N : Int) (B : Int) ∧ 0 ≤ (p0 : Int) + 2 * (p1 : Int) ∧ (p0 : Int) + 2 * (p1 : Int) ≤ 200 := ⟨HFR.out, by omega, h2i⟩
              have eO : OK_FractionDigits (A : Int) (N : Int) (B : Int) ((p0 : Int) + 2 * (p1 : Int)) = true := decide_eq_true hfr
              have eL : LF_FractionDigits (A : Int) (N : Int) (B : Int) ((p0 : Int) + 2 * (p1 : Int)) = fdg A N B (p0 + 2 * p1) := by unfold LF_FractionDigits; rw [if_pos hfr, show ((p0 : Int) + 2 * (p1 : Int)).toNat = p0 + 2 * p1 by omega]; rfl
              rw [eO, eL] at HFD
              have HDG := Lib.hid (fun i (hi : i < p0 + 2 * p1) => fdg_get (a := A) (n := N) (b := B) hi)
              have hdl := fdg_len A N B (p0 + 2 * p1)
              obtain ⟨DD, hDD⟩ : ∃ DD, DD = fdg A N B (p0 + 2 * p1) := ⟨_, rfl⟩
              rw [← hDD] at HFD HDG hdl
              clear hDD eO eL hfr
              have HOK := Lib.hid (show OK_RepetendOf (A : Int) (N : Int) (B : Int) = true from decide_eq_true ⟨HFR.out, by show pA A N B ≤ 400; rw [← HP1.out]; omega⟩)
              have HLR := Lib.hid (show LF_RepetendOf (A : Int) (N : Int) (B : Int) = rpt A N B by unfold LF_RepetendOf; rw [if_pos ⟨HFR.out, by show pA A N B ≤ 400; rw [← HP1.out]; omega⟩]; rfl)
              have hkr := HKR.out.trans HOK.out
              cases hkr
            · have h2i : ¬ (p0 : Int) + 2 * (p1 : Int) ≤ 200 := by omega
              as_aux_lemma =>
                go_wp2_with fail
                refine (draw_OrderOf _ xs1 _ (HS1.out.keep BE9.out) HL1.out).mono ?_
                rintro e y1 ⟨m, d, rfl, hb⟩
                have BE10 := Lib.hid (BE9.out.trans (hb.mono BE9.out.size))
                clear hb
                have HU1 := Lib.hid (fun w => impl_OrderOf m d w)
                have HU2 := Lib.hid (fun w => spec_OrderOf m d w)
                simp only [optRes] at HU1 HU2
                by_cases hR : Bas d ∧ Den m ∧ Nat.gcd d.toNat m.toNat = 1
                · skip
                  obtain ⟨⟨hb1, hb2⟩, ⟨hd1, hd2⟩, hgd⟩ := hR
                  obtain ⟨M, rfl⟩ : ∃ M : Nat, m = (M : Int) := ⟨m.toNat, by omega⟩
                  obtain ⟨D, rfl⟩ : ∃ D : Nat, d = (D : Int) := ⟨d.toNat, by omega⟩
                  have hM : 0 < M := by omega
                  have hM2 : M ≤ 2000 := by omega
                  have hD : D ≤ 16 := by omega
                  have hgd2 : Nat.gcd D M = 1 := by simpa using hgd
                  have eO : ROrd (M : Int) (D : Int) = some ((ordN D M : Nat) : Int) := by rw [ord_at (by omega) hD hM hM2, if_pos hgd2]
                  rw [eO] at HU1 HU2
                  simp only [Option.getD_some, Option.isSome_some] at HU1 HU2
                  obtain ⟨o1, o2, o3, o4⟩ := ord_spec hgd2 hM
                  have HO3 := Lib.hid o3
                  have HO4 := Lib.hid o4
                  obtain ⟨O, hO⟩ : ∃ O, O = ordN D M := ⟨_, rfl⟩
                  rw [← hO] at HU1 HU2 o1 o2 HO3 HO4
                  clear hO eO o3 o4 hgd hgd2
                  go_wp2_with fail
                  refine (HU1.out _).mono ?_
                  rintro e w11 ⟨rfl, hb⟩
                  have BE11 := Lib.hid (BE10.out.trans (hb.mono BE10.out.size))
                  clear hb
                  go_wp2_with fail
                  refine (HU2.out _).mono ?_
                  rintro e w12 ⟨rfl, hb⟩
                  have BE12 := Lib.hid (BE11.out.trans (hb.mono BE11.out.size))
                  clear hb
                  obtain ⟨e1, he1⟩ : ∃ e1, e1 = 1 % M := ⟨_, rfl⟩
                  have HE1 := Lib.hid he1
                  have he1M : e1 < M := by rw [he1]; exact Nat.mod_lt _ hM
                  rw [← he1] at HO3 HO4
                  have ht1 : Int.tmod 1 (M : Int) = (e1 : Int) := by rw [Int.tmod_eq_emod_of_nonneg (by omega), he1]; rfl
                  have ht2 : (1 : Int) % (M : Int) = (e1 : Int) := by rw [he1]; rfl
                  have hM0 : (M : Int) ≠ 0 := by omega
                  have hM1 : ((M : Int) == 0) = false := beq_no hM0
                  clear he1
                  go_wp2
                  go_loopw [32, 33] (fun p i wr => ∃ j : Nat, j ≤ O ∧ i = .int .i64 ((j : Int) + 1) ∧ p = .int .i64 ((it (mb D M) j e1 : Nat) : Int) ∧ Below w12.heap.size w12 wr) (fun _ i _ => (O : Int).toNat + 1 - (intOf i).toNat)
                  case atStart => exact ⟨0, Nat.zero_le _, rfl, rfl, Below.refl _ _⟩
                  case round =>
                    obtain ⟨j, hj, rfl, rfl, hb⟩ := hrel
                    have KB := Lib.hid hb
                    clear hb
                    by_cases hlt : j < O
                    · have hji : (j : Int) + 1 ≤ (O : Int) := by omega
                      have hit := it_lt (mb_into (b := D) hM) j he1M
                      have hst : it (mb D M) (j + 1) e1 = it (mb D M) j e1 * (D % M) % M := by rw [mb_less]; rfl
                      have hH4 := HO4.out (j + 1) (by omega)
                      obtain ⟨x, hx⟩ : ∃ x, x = it (mb D M) j e1 := ⟨_, rfl⟩
                      rw [← hx] at hit hst ⊢
                      obtain ⟨c, hc⟩ : ∃ c, c = D % M := ⟨_, rfl⟩
                      rw [← hc] at hst
                      have hcM : c ≤ 16 := by rw [hc]; exact Nat.le_trans (Nat.mod_le _ _) hD
                      have hc1 : Int.tmod (D : Int) (M : Int) = (c : Int) := by rw [Int.tmod_eq_emod_of_nonneg (by omega), hc]; rfl
                      have hc2 : (D : Int) % (M : Int) = (c : Int) := by rw [hc]; rfl
                      obtain ⟨P, hP⟩ : ∃ P, P = x * c := ⟨_, rfl⟩
                      have hPb : P ≤ 32000 := by rw [hP]; exact Nat.mul_le_mul (show x ≤ 2000 by omega) hcM
                      have hP2 : (x : Int) * (c : Int) = (P : Int) := by rw [hP]; simp
                      rw [← hP] at hst
                      obtain ⟨y, hy⟩ : ∃ y, y = it (mb D M) (j + 1) e1 := ⟨_, rfl⟩
                      have HY := Lib.hid hy
                      rw [← hy] at hst hH4
                      have hyM : y < M := by rw [hst]; exact Nat.mod_lt _ hM
                      have hp1 : Int.tmod (P : Int) (M : Int) = (y : Int) := by rw [Int.tmod_eq_emod_of_nonneg (by omega), hst]; rfl
                      have hp2 : (P : Int) % (M : Int) = (y : Int) := by rw [hst]; rfl
                      by_cases hjO : j + 1 = O
                      · have hye : y = e1 := by rw [HY.out, hjO]; exact HO3.out
                        have hq1 : ((y : Int) == (e1 : Int)) = true := by rw [hye]; simp
                        have hq2 : ((j : Int) + 1 == (O : Int)) = true := by rw [← hjO]; simp
                        clear hx hc hP hy hst hH4 hye
                        go_wp2
                        go_roundw
                        case rel => exact ⟨j + 1, by omega, by go_num, by rw [← HY.out], KB.out⟩
                        case measure => simp [intOf]; omega
                      · have hye : y ≠ e1 := fun e => hH4 (by omega) e
                        have hq1 : ((y : Int) == (e1 : Int)) = false := beq_no (by omega)
                        have hq2 : ((j : Int) + 1 == (O : Int)) = false := beq_no (by omega)
                        clear hx hc hP hy hst hH4 hye
                        go_wp2
                        go_roundw
                        case rel => exact ⟨j + 1, by omega, by go_num, by rw [← HY.out], KB.out⟩
                        case measure => simp [intOf]; omega
                    · obtain rfl : j = O := by omega
                      have hji : ¬ (j : Int) + 1 ≤ (j : Int) := by omega
                      have BE13 := Lib.hid (BE12.out.trans (KB.out.mono BE12.out.size))
                      obtain ⟨w13, hwr⟩ : ∃ w13, w13 = wr := ⟨_, rfl⟩
                      subst hwr
                      clear KB
                      go_wp2_with fail
                      refine (draw_FractionDigits _ xs1 _ (HS1.out.keep BE13.out) HL1.out).mono ?_
                      rintro e y2 ⟨p, q, c, k, rfl, hb⟩
                      have BE14 := Lib.hid (BE13.out.trans (hb.mono BE13.out.size))
                      clear hb
                      have HV1 := Lib.hid (fun w => impl_FractionDigits p q c k w)
                      have HV2 := Lib.hid (fun w => spec_FractionDigits p q c k w)
                      have HVL := Lib.hid (LF_FractionDigits_len p q c k)
                      obtain ⟨ok, hok⟩ : ∃ ok, ok = OK_FractionDigits p q c k := ⟨_, rfl⟩
                      obtain ⟨LL, hLL⟩ : ∃ LL, LL = LF_FractionDigits p q c k := ⟨_, rfl⟩
                      rw [← hok, ← hLL] at HV1 HV2
                      rw [← hLL] at HVL
                      clear hok hLL
                      go_wp2_with fail
                      refine (HV1.out _).mono ?_
                      rintro e w15 ⟨uF, rfl, hr, hb⟩
                      have BE15 := Lib.hid (BE14.out.trans (hb.mono BE14.out.size))
                      have R9 := Lib.hid hr
                      clear hr hb
                      go_wp2_with fail
                      refine (HV2.out _).mono ?_
                      rintro e w16 ⟨uM, rfl, hr, hb⟩
                      have R10 := Lib.hid (R9.out.keep hb)
                      have BE16 := Lib.hid (BE15.out.trans (hb.mono BE15.out.size))
                      have R11 := Lib.hid hr
                      clear hr hb
                      cases ok
                      all_goals
                        go_wp2_with fail
                        refine (qSame_any _ _ LL _ R10.out.sl R11.out.sl HVL.out).mono ?_
                        rintro e w17 ⟨rfl, hb⟩
                        have R12 := Lib.hid (R10.out.keep hb)
                        have R13 := Lib.hid (R11.out.keep hb)
                        have BE17 := Lib.hid (BE16.out.trans (hb.mono BE16.out.size))
                        clear hb
                        go_wp2
                        go_ret
                        exact ⟨rfl, BE17.out⟩
                · rw [show ROrd m d = none from if_neg hR] at HU1 HU2
                  simp only [Option.getD_none, Option.isSome_none] at HU1 HU2
                  clear hR
                  go_wp2_with fail
                  refine (HU1.out _).mono ?_
                  rintro e w11 ⟨rfl, hb⟩
                  have BE11 := Lib.hid (BE10.out.trans (hb.mono BE10.out.size))
                  clear hb
                  go_wp2_with fail
                  refine (HU2.out _).mono ?_
                  rintro e w12 ⟨rfl, hb⟩
                  have BE12 := Lib.hid (BE11.out.trans (hb.mono BE11.out.size))
                  clear hb
                  go_wp2_with fail
                  refine (draw_FractionDigits _ xs1 _ (HS1.out.keep BE12.out) HL1.out).mono ?_
                  rintro e y2 ⟨p, q, c, k, rfl, hb⟩
                  have BE13 := Lib.hid (BE12.out.trans (hb.mono BE12.out.size))
                  clear hb
                  have HV1 := Lib.hid (fun w => impl_FractionDigits p q c k w)
                  have HV2 := Lib.hid (fun w => spec_FractionDigits p q c k w)
                  have HVL := Lib.hid (LF_FractionDigits_len p q c k)
                  obtain ⟨ok, hok⟩ : ∃ ok, ok = OK_FractionDigits p q c k := ⟨_, rfl⟩
                  obtain ⟨LL, hLL⟩ : ∃ LL, LL = LF_FractionDigits p q c k := ⟨_, rfl⟩
                  rw [← hok, ← hLL] at HV1 HV2
                  rw [← hLL] at HVL
                  clear hok hLL
                  go_wp2_with fail
                  refine (HV1.out _).mono ?_
                  rintro e w14 ⟨uF, rfl, hr, hb⟩
                  have BE14 := Lib.hid (BE13.out.trans (hb.mono BE13.out.size))
                  have R9 := Lib.hid hr
                  clear hr hb
                  go_wp2_with fail
                  refine (HV2.out _).mono ?_
                  rintro e w15 ⟨uM, rfl, hr, hb⟩
                  have R10 := Lib.hid (R9.out.keep hb)
                  have BE15 := Lib.hid (BE14.out.trans (hb.mono BE14.out.size))
                  have R11 := Lib.hid hr
                  clear hr hb
                  cases ok
                  all_goals
                    go_wp2_with fail
                    refine (qSame_any _ _ LL _ R10.out.sl R11.out.sl HVL.out).mono ?_
                    rintro e w16 ⟨rfl, hb⟩
                    have R12 := Lib.hid (R10.out.keep hb)
                    have R13 := Lib.hid (R11.out.keep hb)
                    have BE16 := Lib.hid (BE15.out.trans (hb.mono BE15.out.size))
                    clear hb
                    go_wp2
                    go_ret
                    exact ⟨rfl, BE16.out⟩
        · have d1 : ((q : Int) == 1) = false := beq_no (by omega)
          clear hq1 HCQ hqle
          as_aux_lemma =>
            by_cases h2 : p0 + 2 * p1 ≤ 200
            · have h2i : (p0 : Int) + 2 * (p1 : Int) ≤ 200 := by omega
              have HFD := Lib.hid (fun w => impl_FractionDigits (A : Int) (N : Int) (B : Int) ((p0 : Int) + 2 * (p1 : Int)) w)
              have hfr : Frc (A : Int) (N : Int) (B : Int) ∧ 0 ≤ (p0 : Int) + 2 * (p1 : Int) ∧ (p0 : Int) + 2 * (p1 : Int) ≤ 200 := ⟨HFR.out, by omega, h2i⟩
              have eO : OK_FractionDigits (A : Int) (N : Int) (B : Int) ((p0 : Int) + 2 * (p1 : Int)) = true := decide_eq_true hfr
              have eL : LF_FractionDigits (A : Int) (N : Int) (B : Int) ((p0 : Int) + 2 * (p1 : Int)) = fdg A N B (p0 + 2 * p1) := by unfold LF_FractionDigits; rw [if_pos hfr, show ((p0 : Int) + 2 * (p1 : Int)).toNat = p0 + 2 * p1 by omega]; rfl
              rw [eO, eL] at HFD
              have HDG := Lib.hid (fun i (hi : i < p0 + 2 * p1) => fdg_get (a := A) (n := N) (b := B) hi)
              have hdl := fdg_len A N B (p0 + 2 * p1)
              obtain ⟨DD, hDD⟩ : ∃ DD, DD = fdg A N B (p0 + 2 * p1) := ⟨_, rfl⟩
              rw [← hDD] at HFD HDG hdl
              clear hDD eO eL hfr
              have HOK := Lib.hid (show OK_RepetendOf (A : Int) (N : Int) (B : Int) = true from decide_eq_true ⟨HFR.out, by show pA A N B ≤ 400; rw [← HP1.out]; omega⟩)
              have HLR := Lib.hid (show LF_RepetendOf (A : Int) (N : Int) (B : Int) = rpt A N B by unfold LF_RepetendOf; rw [if_pos ⟨HFR.out, by show pA A N B ≤ 400; rw [← HP1.out]; omega⟩]; rfl)
              have hkr := HKR.out.trans HOK.out
              cases hkr
            · have h2i : ¬ (p0 : Int) + 2 * (p1 : Int) ≤ 200 := by omega
              as_aux_lemma =>
                go_wp2_with fail
                refine (draw_OrderOf _ xs1 _ (HS1.out.keep BE9.out) HL1.out).mono ?_
                rintro e y1 ⟨m, d, rfl, hb⟩
                have BE10 := Lib.hid (BE9.out.trans (hb.mono BE9.out.size))
                clear hb
                have HU1 := Lib.hid (fun w => impl_OrderOf m d w)
                have HU2 := Lib.hid (fun w => spec_OrderOf m d w)
                simp only [optRes] at HU1 HU2
                by_cases hR : Bas d ∧ Den m ∧ Nat.gcd d.toNat m.toNat = 1
                · skip
                  obtain ⟨⟨hb1, hb2⟩, ⟨hd1, hd2⟩, hgd⟩ := hR
                  obtain ⟨M, rfl⟩ : ∃ M : Nat, m = (M : Int) := ⟨m.toNat, by omega⟩
                  obtain ⟨D, rfl⟩ : ∃ D : Nat, d = (D : Int) := ⟨d.toNat, by omega⟩
                  have hM : 0 < M := by omega
                  have hM2 : M ≤ 2000 := by omega
                  have hD : D ≤ 16 := by omega
                  have hgd2 : Nat.gcd D M = 1 := by simpa using hgd
                  have eO : ROrd (M : Int) (D : Int) = some ((ordN D M : Nat) : Int) := by rw [ord_at (by omega) hD hM hM2, if_pos hgd2]
                  rw [eO] at HU1 HU2
                  simp only [Option.getD_some, Option.isSome_some] at HU1 HU2
                  obtain ⟨o1, o2, o3, o4⟩ := ord_spec hgd2 hM
                  have HO3 := Lib.hid o3
                  have HO4 := Lib.hid o4
                  obtain ⟨O, hO⟩ : ∃ O, O = ordN D M := ⟨_, rfl⟩
                  rw [← hO] at HU1 HU2 o1 o2 HO3 HO4
                  clear hO eO o3 o4 hgd hgd2
                  go_wp2_with fail
                  refine (HU1.out _).mono ?_
                  rintro e w11 ⟨rfl, hb⟩
                  have BE11 := Lib.hid (BE10.out.trans (hb.mono BE10.out.size))
                  clear hb
                  go_wp2_with fail
                  refine (HU2.out _).mono ?_
                  rintro e w12 ⟨rfl, hb⟩
                  have BE12 := Lib.hid (BE11.out.trans (hb.mono BE11.out.size))
                  clear hb
                  obtain ⟨e1, he1⟩ : ∃ e1, e1 = 1 % M := ⟨_, rfl⟩
                  have HE1 := Lib.hid he1
                  have he1M : e1 < M := by rw [he1]; exact Nat.mod_lt _ hM
                  rw [← he1] at HO3 HO4
                  have ht1 : Int.tmod 1 (M : Int) = (e1 : Int) := by rw [Int.tmod_eq_emod_of_nonneg (by omega), he1]; rfl
                  have ht2 : (1 : Int) % (M : Int) = (e1 : Int) := by rw [he1]; rfl
                  have hM0 : (M : Int) ≠ 0 := by omega
                  have hM1 : ((M : Int) == 0) = false := beq_no hM0
                  clear he1
                  go_wp2
                  go_loopw [32, 33] (fun p i wr => ∃ j : Nat, j ≤ O ∧ i = .int .i64 ((j : Int) + 1) ∧ p = .int .i64 ((it (mb D M) j e1 : Nat) : Int) ∧ Below w12.heap.size w12 wr) (fun _ i _ => (O : Int).toNat + 1 - (intOf i).toNat)
                  case atStart => exact ⟨0, Nat.zero_le _, rfl, rfl, Below.refl _ _⟩
                  case round =>
                    obtain ⟨j, hj, rfl, rfl, hb⟩ := hrel
                    have KB := Lib.hid hb
                    clear hb
                    by_cases hlt : j < O
                    · have hji : (j : Int) + 1 ≤ (O : Int) := by omega
                      have hit := it_lt (mb_into (b := D) hM) j he1M
                      have hst : it (mb D M) (j + 1) e1 = it (mb D M) j e1 * (D % M) % M := by rw [mb_less]; rfl
                      have hH4 := HO4.out (j + 1) (by omega)
                      obtain ⟨x, hx⟩ : ∃ x, x = it (mb D M) j e1 := ⟨_, rfl⟩
                      rw [← hx] at hit hst ⊢
                      obtain ⟨c, hc⟩ : ∃ c, c = D % M := ⟨_, rfl⟩
                      rw [← hc] at hst
                      have hcM : c ≤ 16 := by rw [hc]; exact Nat.le_trans (Nat.mod_le _ _) hD
                      have hc1 : Int.tmod (D : Int) (M : Int) = (c : Int) := by rw [Int.tmod_eq_emod_of_nonneg (by omega), hc]; rfl
                      have hc2 : (D : Int) % (M : Int) = (c : Int) := by rw [hc]; rfl
                      obtain ⟨P, hP⟩ : ∃ P, P = x * c := ⟨_, rfl⟩
                      have hPb : P ≤ 32000 := by rw [hP]; exact Nat.mul_le_mul (show x ≤ 2000 by omega) hcM
                      have hP2 : (x : Int) * (c : Int) = (P : Int) := by rw [hP]; simp
                      rw [← hP] at hst
                      obtain ⟨y, hy⟩ : ∃ y, y = it (mb D M) (j + 1) e1 := ⟨_, rfl⟩
                      have HY := Lib.hid hy
                      rw [← hy] at hst hH4
                      have hyM : y < M := by rw [hst]; exact Nat.mod_lt _ hM
                      have hp1 : Int.tmod (P : Int) (M : Int) = (y : Int) := by rw [Int.tmod_eq_emod_of_nonneg (by omega), hst]; rfl
                      have hp2 : (P : Int) % (M : Int) = (y : Int) := by rw [hst]; rfl
                      by_cases hjO : j + 1 = O
                      · have hye : y = e1 := by rw [HY.out, hjO]; exact HO3.out
                        have hq1 : ((y : Int) == (e1 : Int)) = true := by rw [hye]; simp
                        have hq2 : ((j : Int) + 1 == (O : Int)) = true := by rw [← hjO]; simp
                        clear hx hc hP hy hst hH4 hye
                        go_wp2
                        go_roundw
                        case rel => exact ⟨j + 1, by omega, by go_num, by rw [← HY.out], KB.out⟩
                        case measure => simp [intOf]; omega
                      · have hye : y ≠ e1 := fun e => hH4 (by omega) e
                        have hq1 : ((y : Int) == (e1 : Int)) = false := beq_no (by omega)
                        have hq2 : ((j : Int) + 1 == (O : Int)) = false := beq_no (by omega)
                        clear hx hc hP hy hst hH4 hye
                        go_wp2
                        go_roundw
                        case rel => exact ⟨j + 1, by omega, by go_num, by rw [← HY.out], KB.out⟩
                        case measure => simp [intOf]; omega
                    · obtain rfl : j = O := by omega
                      have hji : ¬ (j : Int) + 1 ≤ (j : Int) := by omega
                      have BE13 := Lib.hid (BE12.out.trans (KB.out.mono BE12.out.size))
                      obtain ⟨w13, hwr⟩ : ∃ w13, w13 = wr := ⟨_, rfl⟩
                      subst hwr
                      clear KB
                      go_wp2_with fail
                      refine (draw_FractionDigits _ xs1 _ (HS1.out.keep BE13.out) HL1.out).mono ?_
                      rintro e y2 ⟨p, q, c, k, rfl, hb⟩
                      have BE14 := Lib.hid (BE13.out.trans (hb.mono BE13.out.size))
                      clear hb
                      have HV1 := Lib.hid (fun w => impl_FractionDigits p q c k w)
                      have HV2 := Lib.hid (fun w => spec_FractionDigits p q c k w)
                      have HVL := Lib.hid (LF_FractionDigits_len p q c k)
                      obtain ⟨ok, hok⟩ : ∃ ok, ok = OK_FractionDigits p q c k := ⟨_, rfl⟩
                      obtain ⟨LL, hLL⟩ : ∃ LL, LL = LF_FractionDigits p q c k := ⟨_, rfl⟩
                      rw [← hok, ← hLL] at HV1 HV2
                      rw [← hLL] at HVL
                      clear hok hLL
                      go_wp2_with fail
                      refine (HV1.out _).mono ?_
                      rintro e w15 ⟨uF, rfl, hr, hb⟩
                      have BE15 := Lib.hid (BE14.out.trans (hb.mono BE14.out.size))
                      have R9 := Lib.hid hr
                      clear hr hb
                      go_wp2_with fail
                      refine (HV2.out _).mono ?_
                      rintro e w16 ⟨uM, rfl, hr, hb⟩
                      have R10 := Lib.hid (R9.out.keep hb)
                      have BE16 := Lib.hid (BE15.out.trans (hb.mono BE15.out.size))
                      have R11 := Lib.hid hr
                      clear hr hb
                      cases ok
                      all_goals
                        go_wp2_with fail
                        refine (qSame_any _ _ LL _ R10.out.sl R11.out.sl HVL.out).mono ?_
                        rintro e w17 ⟨rfl, hb⟩
                        have R12 := Lib.hid (R10.out.keep hb)
                        have R13 := Lib.hid (R11.out.keep hb)
                        have BE17 := Lib.hid (BE16.out.trans (hb.mono BE16.out.size))
                        clear hb
                        go_wp2
                        go_ret
                        exact ⟨rfl, BE17.out⟩
                · rw [show ROrd m d = none from if_neg hR] at HU1 HU2
                  simp only [Option.getD_none, Option.isSome_none] at HU1 HU2
                  clear hR
                  go_wp2_with fail
                  refine (HU1.out _).mono ?_
                  rintro e w11 ⟨rfl, hb⟩
                  have BE11 := Lib.hid (BE10.out.trans (hb.mono BE10.out.size))
                  clear hb
                  go_wp2_with fail
                  refine (HU2.out _).mono ?_
                  rintro e w12 ⟨rfl, hb⟩
                  have BE12 := Lib.hid (BE11.out.trans (hb.mono BE11.out.size))
                  clear hb
                  go_wp2_with fail
                  refine (draw_FractionDigits _ xs1 _ (HS1.out.keep BE12.out) HL1.out).mono ?_
                  rintro e y2 ⟨p, q, c, k, rfl, hb⟩
                  have BE13 := Lib.hid (BE12.out.trans (hb.mono BE12.out.size))
                  clear hb
                  have HV1 := Lib.hid (fun w => impl_FractionDigits p q c k w)
                  have HV2 := Lib.hid (fun w => spec_FractionDigits p q c k w)
                  have HVL := Lib.hid (LF_FractionDigits_len p q c k)
                  obtain ⟨ok, hok⟩ : ∃ ok, ok = OK_FractionDigits p q c k := ⟨_, rfl⟩
                  obtain ⟨LL, hLL⟩ : ∃ LL, LL = LF_FractionDigits p q c k := ⟨_, rfl⟩
                  rw [← hok, ← hLL] at HV1 HV2
                  rw [← hLL] at HVL
                  clear hok hLL
                  go_wp2_with fail
                  refine (HV1.out _).mono ?_
                  rintro e w14 ⟨uF, rfl, hr, hb⟩
                  have BE14 := Lib.hid (BE13.out.trans (hb.mono BE13.out.size))
                  have R9 := Lib.hid hr
                  clear hr hb
                  go_wp2_with fail
                  refine (HV2.out _).mono ?_
                  rintro e w15 ⟨uM, rfl, hr, hb⟩
                  have R10 := Lib.hid (R9.out.keep hb)
                  have BE15 := Lib.hid (BE14.out.trans (hb.mono BE14.out.size))
                  have R11 := Lib.hid hr
                  clear hr hb
                  cases ok
                  all_goals
                    go_wp2_with fail
                    refine (qSame_any _ _ LL _ R10.out.sl R11.out.sl HVL.out).mono ?_
                    rintro e w16 ⟨rfl, hb⟩
                    have R12 := Lib.hid (R10.out.keep hb)
                    have R13 := Lib.hid (R11.out.keep hb)
                    have BE16 := Lib.hid (BE15.out.trans (hb.mono BE15.out.size))
                    clear hb
                    go_wp2
                    go_ret
                    exact ⟨rfl, BE16.out⟩
      · skip
        go_wp2_with fail
        refine (HOI.out _).mono ?_
        rintro e w7 ⟨rfl, hb⟩
        have R6 := Lib.hid (R4.out.keep hb)
        have BE7 := Lib.hid (BE6.out.trans (hb.mono BE6.out.size))
        clear hb
        go_wp2_with fail
        refine (HG1.out _).mono ?_
        rintro e w8 ⟨rfl, hb⟩
        have R7 := Lib.hid (R6.out.keep hb)
        have BE8 := Lib.hid (BE7.out.trans (hb.mono BE7.out.size))
        clear hb
        go_wp2_with fail
        refine (HG2.out _).mono ?_
        rintro e w9 ⟨rfl, hb⟩
        have R8 := Lib.hid (R7.out.keep hb)
        have BE9 := Lib.hid (BE8.out.trans (hb.mono BE8.out.size))
        clear hb
        by_cases hq1 : q = 1
        · obtain ⟨c1, c2⟩ := HCQ.out hq1
          have d1 : ((q : Int) == 1) = true := by rw [hq1]; rfl
          have d2 : ((p0 : Int) == 0) = true := by rw [c1]; rfl
          have d3 : ((p0 : Int) != 0) = false := by rw [c1]; rfl
          have d4 : ((p1 : Int) == (O : Int)) = true := by rw [c2]; simp
          have d5 : ((p1 : Int) != (O : Int)) = false := by rw [c2]; simp
          clear c1 c2 hq1 HCQ hqle
          as_aux_lemma =>
            by_cases h2 : p0 + 2 * p1 ≤ 200
            · have h2i : (p0 : Int) + 2 * (p1 : Int) ≤ 200 := by omega
              have HFD := Lib.hid (fun w => impl_FractionDigits (A : Int) (N : Int) (B : Int) ((p0 : Int) + 2 * (p1 : Int)) w)
              have hfr : Frc (A : Int) (N : Int) (B : Int) ∧ 0 ≤ (p0 : Int) + 2 * (p1 : Int) ∧ (p0 : Int) + 2 * (p1 : Int) ≤ 200 := ⟨HFR.out, by omega, h2i⟩
              have eO : OK_FractionDigits (A : Int) (N : Int) (B : Int) ((p0 : Int) + 2 * (p1 : Int)) = true := decide_eq_true hfr
              have eL : LF_FractionDigits (A : Int) (N : Int) (B : Int) ((p0 : Int) + 2 * (p1 : Int)) = fdg A N B (p0 + 2 * p1) := by unfold LF_FractionDigits; rw [if_pos hfr, show ((p0 : Int) + 2 * (p1 : Int)).toNat = p0 + 2 * p1 by omega]; rfl
              rw [eO, eL] at HFD
              have HDG := Lib.hid (fun i (hi : i < p0 + 2 * p1) => fdg_get (a := A) (n := N) (b := B) hi)
              have hdl := fdg_len A N B (p0 + 2 * p1)
              obtain ⟨DD, hDD⟩ : ∃ DD, DD = fdg A N B (p0 + 2 * p1) := ⟨_, rfl⟩
              rw [← hDD] at HFD HDG hdl
              clear hDD eO eL hfr
              have HOK := Lib.hid (show OK_RepetendOf (A : Int) (N : Int) (B : Int) = true from decide_eq_true ⟨HFR.out, by show pA A N B ≤ 400; rw [← HP1.out]; omega⟩)
              have HLR := Lib.hid (show LF_RepetendOf (A : Int) (N : Int) (B : Int) = rpt A N B by unfold LF_RepetendOf; rw [if_pos ⟨HFR.out, by show pA A N B ≤ 400; rw [← HP1.out]; omega⟩]; rfl)
              have hkr := HKR.out.trans HOK.out
              clear hkr
              have RZ := R8.out
              rw [HLR.out] at RZ
              have RZH := Lib.hid RZ
              clear RZ
              go_wp2_with fail
              refine (HFD.out _).mono ?_
              rintro e w10 ⟨uD, rfl, hr, hb⟩
              have R9 := Lib.hid (RZH.out.keep hb)
              have BE10 := Lib.hid (BE9.out.trans (hb.mono BE9.out.size))
              have R10 := Lib.hid hr
              clear hr hb
              have hrl := rpt_len A N B
              rw [← HP1.out] at hrl
              obtain ⟨gR, oR, cR, hRe, hgR, hzR⟩ := sl_lies R9.out.sl (by rw [hrl]; omega)
              obtain ⟨gD, oD, cD, hDe, hgD, hzD⟩ := sl_lies R10.out.sl (by rw [hdl]; omega)
              subst hRe
              subst hDe
              rw [hrl, hdl]
              have HZR := Lib.hid (fun j (hj : j < p1) => (hzR j (by rw [hrl]; exact hj)).trans (by rw [rpt_get (by rw [← HP1.out]; exact hj), ← HP0.out]))
              have HZD := Lib.hid (fun j (hj : j < p0 + 2 * p1) => (hzD j (by rw [hdl]; exact hj)).trans (by rw [HDG.out j hj]))
              clear hzR hzD hrl hdl
              obtain ⟨KD, hKD⟩ : ∃ KD, KD = p0 + 2 * p1 := ⟨_, rfl⟩
              have HKD := Lib.hid hKD
              rw [← hKD]
              have hkd : (KD : Int) = (p0 : Int) + 2 * (p1 : Int) := by omega
              have HKI := Lib.hid hkd
              have hKb : KD ≤ 200 := by omega
              clear hKD hkd
              go_wp2
              go_loopw [22] (fun i wr => ∃ k : Nat, k ≤ p1 ∧ i = .int .i64 ((p0 : Int) + (k : Int)) ∧ Below w10.heap.size w10 wr) (fun i _ => p0 + p1 - (intOf i).toNat)
              case atStart => exact ⟨0, Nat.zero_le _, by first | rfl | (congr 1; omega), Below.refl _ _⟩
              case round =>
                obtain ⟨r, hr, rfl, hb⟩ := hrel
                have KB := Lib.hid hb
                clear hb
                obtain ⟨k, hk⟩ : ∃ k, k = p0 + r := ⟨_, rfl⟩
                have hki : (p0 : Int) + (r : Int) = (k : Int) := by omega
                rw [hki]
                by_cases hlt : r < p1
                · have hkl : (k : Int) < (p0 : Int) + (p1 : Int) := by omega
                  obtain ⟨t, ht⟩ : ∃ t, t = k + p1 := ⟨_, rfl⟩
                  have hti : (k : Int) + (p1 : Int) = (t : Int) := by omega
                  have hri : (k : Int) - (p0 : Int) = (r : Int) := by omega
                  have hKK := HKI.out
                  have htK : (t : Int) < (KD : Int) := by omega
                  have hkK : (k : Int) < (KD : Int) := by omega
                  have hrp : (r : Int) < (p1 : Int) := by omega
                  have htK2 : t < KD := by omega
                  have hkK2 : k < KD := by omega
                  have zk := (KB.out.cell (p := ⟨gD, oD + k, none⟩) hgD).trans (HZD.out k (by rw [← HKD.out]; exact hkK2))
                  have zt := (KB.out.cell (p := ⟨gD, oD + t, none⟩) hgD).trans (HZD.out t (by rw [← HKD.out]; exact htK2))
                  have zr := (KB.out.cell (p := ⟨gR, oR + r, none⟩) hgR).trans (HZR.out r hlt)
                  rw [ht, HP1.out, dig_again HFA.out.1 HFA.out.2.1 HFA.out.2.2 (by rw [← HP0.out]; omega), ← HP1.out, ← ht] at zt
                  rw [← hk] at zr
                  obtain ⟨dd, hdd⟩ : ∃ dd, dd = it (mb B N) k A * B / N := ⟨_, rfl⟩
                  rw [← hdd] at zk zt zr
                  clear hdd ht hKK
                  have hk1 : (k : Int) + 1 = (p0 : Int) + ((r + 1 : Nat) : Int) := by omega
                  have HK1 := Lib.hid hk1
                  clear hk1
                  clear hk
                  go_wp2
                  go_quiet (fail)
                  go_wp2
                  go_roundw
                  case rel => exact ⟨r + 1, by omega, by first | rfl | (rw [HK1.out]) | (rw [← HK1.out]; go_num), below_drewP KB.out _⟩
                  case measure => simp [intOf]; omega
                · have hkl : ¬ (k : Int) < (p0 : Int) + (p1 : Int) := by omega
                  clear hki hk
                  have HZW := Lib.hid (fun j (hj : j < KD) => (KB.out.cell (p := ⟨gD, oD + j, none⟩) hgD).trans (HZD.out j (by rw [← HKD.out]; exact hj)))
                  have hgW := Nat.lt_of_lt_of_le hgD KB.out.size
                  have BE11 := Lib.hid (BE10.out.trans (KB.out.mono BE10.out.size))
                  obtain ⟨w11, hwr⟩ : ∃ w11, w11 = wr := ⟨_, rfl⟩
                  subst hwr
                  clear KB
                  go_wp2
                  go_loopw [23, 207] (fun l i wr => ∃ j : Nat, j ≤ KD ∧ l = .int .i64 ((it (mb B N) j A : Nat) : Int) ∧ i = .int .i64 (j : Int) ∧ Below w11.heap.size w11 wr) (fun _ i _ => KD - (intOf i).toNat)
                  case atStart => exact ⟨0, Nat.zero_le _, rfl, rfl, Below.refl _ _⟩
                  case round =>
                    obtain ⟨j, hj, rfl, rfl, hb⟩ := hrel
                    have KB := Lib.hid hb
                    clear hb
                    by_cases hlt : j < KD
                    · have hji : (j : Int) < (KD : Int) := by omega
                      have zj := (KB.out.cell (p := ⟨gD, oD + j, none⟩) hgW).trans (HZW.out j hlt)
                      have hxN := it_lt (mb_into (b := B) HFA.out.2.1) j HFA.out.2.2
                      have hdl := dig_lt (b := B) HFA.out.2.1 HFA.out.1 hxN
                      have hst : it (mb B N) (j + 1) A = it (mb B N) j A * B % N := rfl
                      obtain ⟨x, hx⟩ : ∃ x, x = it (mb B N) j A := ⟨_, rfl⟩
                      rw [← hx] at hxN hdl hst zj ⊢
                      obtain ⟨P, hP⟩ : ∃ P, P = x * B := ⟨_, rfl⟩
                      have hPb : P ≤ 32000 := by rw [hP]; exact Nat.mul_le_mul (show x ≤ 2000 by omega) hB16
                      have hP2 : (x : Int) * (B : Int) = (P : Int) := by rw [hP]; simp
                      rw [← hP] at hdl hst zj
                      obtain ⟨dd, hdd⟩ : ∃ dd, dd = P / N := ⟨_, rfl⟩
                      rw [← hdd] at hdl zj
                      have hq1 : Int.tdiv (P : Int) (N : Int) = (dd : Int) := by rw [Int.tdiv_eq_ediv_of_nonneg (by omega), hdd]; rfl
                      have hq2 : (P : Int) / (N : Int) = (dd : Int) := by rw [hdd]; rfl
                      obtain ⟨y, hy⟩ : ∃ y, y = it (mb B N) (j + 1) A := ⟨_, rfl⟩
                      have HY := Lib.hid hy
                      rw [← hy] at hst
                      have hr1 : Int.tmod (P : Int) (N : Int) = (y : Int) := by rw [Int.tmod_eq_emod_of_nonneg (by omega), hst]; rfl
                      have hr2 : (P : Int) % (N : Int) = (y : Int) := by rw [hst]; rfl
                      have hN0 : (N : Int) ≠ 0 := by omega
                      have hN1 : ((N : Int) == 0) = false := beq_no hN0
                      have hdb : ¬ (B : Int) ≤ (dd : Int) := by omega
                      have hd0 : ¬ (dd : Int) < 0 := by omega
                      have hdb2 : (dd : Int) < (B : Int) := by omega
                      clear hx hP hdd hy hst
                      go_wp2
                      go_roundw
                      case rel => exact ⟨j + 1, by omega, by rw [← HY.out], by go_num, KB.out⟩
                      case measure => simp [intOf]; omega
                    · obtain rfl : j = KD := by omega
                      have BE12 := Lib.hid (BE11.out.trans (KB.out.mono BE11.out.size))
                      obtain ⟨w12, hwr⟩ : ∃ w12, w12 = wr := ⟨_, rfl⟩
                      subst hwr
                      clear KB
                      as_aux_lemma =>
                        go_wp2_with fail
                        refine (draw_OrderOf _ xs1 _ (HS1.out.keep BE12.out) HL1.out).mono ?_
                        rintro e y1 ⟨m, d, rfl, hb⟩
                        have BE13 := Lib.hid (BE12.out.trans (hb.mono BE12.out.size))
                        clear hb
                        have HU1 := Lib.hid (fun w => impl_OrderOf m d w)
                        have HU2 := Lib.hid (fun w => spec_OrderOf m d w)
                        simp only [optRes] at HU1 HU2
                        by_cases hR : Bas d ∧ Den m ∧ Nat.gcd d.toNat m.toNat = 1
                        · skip
                          obtain ⟨⟨hb1, hb2⟩, ⟨hd1, hd2⟩, hgd⟩ := hR
                          obtain ⟨M, rfl⟩ : ∃ M : Nat, m = (M : Int) := ⟨m.toNat, by omega⟩
                          obtain ⟨D, rfl⟩ : ∃ D : Nat, d = (D : Int) := ⟨d.toNat, by omega⟩
                          have hM : 0 < M := by omega
                          have hM2 : M ≤ 2000 := by omega
                          have hD : D ≤ 16 := by omega
                          have hgd2 : Nat.gcd D M = 1 := by simpa using hgd
                          have eO : ROrd (M : Int) (D : Int) = some ((ordN D M : Nat) : Int) := by rw [ord_at (by omega) hD hM hM2, if_pos hgd2]
                          rw [eO] at HU1 HU2
                          simp only [Option.getD_some, Option.isSome_some] at HU1 HU2
                          obtain ⟨o1, o2, o3, o4⟩ := ord_spec hgd2 hM
                          have HO3 := Lib.hid o3
                          have HO4 := Lib.hid o4
                          obtain ⟨O, hO⟩ : ∃ O, O = ordN D M := ⟨_, rfl⟩
                          rw [← hO] at HU1 HU2 o1 o2 HO3 HO4
                          clear hO eO o3 o4 hgd hgd2
                          go_wp2_with fail
                          refine (HU1.out _).mono ?_
                          rintro e w14 ⟨rfl, hb⟩
                          have BE14 := Lib.hid (BE13.out.trans (hb.mono BE13.out.size))
                          clear hb
                          go_wp2_with fail
                          refine (HU2.out _).mono ?_
                          rintro e w15 ⟨rfl, hb⟩
                          have BE15 := Lib.hid (BE14.out.trans (hb.mono BE14.out.size))
                          clear hb
                          obtain ⟨e1, he1⟩ : ∃ e1, e1 = 1 % M := ⟨_, rfl⟩
                          have HE1 := Lib.hid he1
                          have he1M : e1 < M := by rw [he1]; exact Nat.mod_lt _ hM
                          rw [← he1] at HO3 HO4
                          have ht1 : Int.tmod 1 (M : Int) = (e1 : Int) := by rw [Int.tmod_eq_emod_of_nonneg (by omega), he1]; rfl
                          have ht2 : (1 : Int) % (M : Int) = (e1 : Int) := by rw [he1]; rfl
                          have hM0 : (M : Int) ≠ 0 := by omega
                          have hM1 : ((M : Int) == 0) = false := beq_no hM0
                          clear he1
                          go_wp2
                          go_loopw [32, 33] (fun p i wr => ∃ j : Nat, j ≤ O ∧ i = .int .i64 ((j : Int) + 1) ∧ p = .int .i64 ((it (mb D M) j e1 : Nat) : Int) ∧ Below w15.heap.size w15 wr) (fun _ i _ => (O : Int).toNat + 1 - (intOf i).toNat)
                          case atStart => exact ⟨0, Nat.zero_le _, rfl, rfl, Below.refl _ _⟩
                          case round =>
                            obtain ⟨j, hj, rfl, rfl, hb⟩ := hrel
                            have KB := Lib.hid hb
                            clear hb
                            by_cases hlt : j < O
                            · have hji : (j : Int) + 1 ≤ (O : Int) := by omega
                              have hit := it_lt (mb_into (b := D) hM) j he1M
                              have hst : it (mb D M) (j + 1) e1 = it (mb D M) j e1 * (D % M) % M := by rw [mb_less]; rfl
                              have hH4 := HO4.out (j + 1) (by omega)
                              obtain ⟨x, hx⟩ : ∃ x, x = it (mb D M) j e1 := ⟨_, rfl⟩
                              rw [← hx] at hit hst ⊢
                              obtain ⟨c, hc⟩ : ∃ c, c = D % M := ⟨_, rfl⟩
                              rw [← hc] at hst
                              have hcM : c ≤ 16 := by rw [hc]; exact Nat.le_trans (Nat.mod_le _ _) hD
                              have hc1 : Int.tmod (D : Int) (M : Int) = (c : Int) := by rw [Int.tmod_eq_emod_of_nonneg (by omega), hc]; rfl
                              have hc2 : (D : Int) % (M : Int) = (c : Int) := by rw [hc]; rfl
                              obtain ⟨P, hP⟩ : ∃ P, P = x * c := ⟨_, rfl⟩
                              have hPb : P ≤ 32000 := by rw [hP]; exact Nat.mul_le_mul (show x ≤ 2000 by omega) hcM
                              have hP2 : (x : Int) * (c : Int) = (P : Int) := by rw [hP]; simp
                              rw [← hP] at hst
                              obtain ⟨y, hy⟩ : ∃ y, y = it (mb D M) (j + 1) e1 := ⟨_, rfl⟩
                              have HY := Lib.hid hy
                              rw [← hy] at hst hH4
                              have hyM : y < M := by rw [hst]; exact Nat.mod_lt _ hM
                              have hp1 : Int.tmod (P : Int) (M : Int) = (y : Int) := by rw [Int.tmod_eq_emod_of_nonneg (by omega), hst]; rfl
                              have hp2 : (P : Int) % (M : Int) = (y : Int) := by rw [hst]; rfl
                              by_cases hjO : j + 1 = O
                              · have hye : y = e1 := by rw [HY.out, hjO]; exact HO3.out
                                have hq1 : ((y : Int) == (e1 : Int)) = true := by rw [hye]; simp
                                have hq2 : ((j : Int) + 1 == (O : Int)) = true := by rw [← hjO]; simp
                                clear hx hc hP hy hst hH4 hye
                                go_wp2
                                go_roundw
                                case rel => exact ⟨j + 1, by omega, by go_num, by rw [← HY.out], KB.out⟩
                                case measure => simp [intOf]; omega
                              · have hye : y ≠ e1 := fun e => hH4 (by omega) e
                                have hq1 : ((y : Int) == (e1 : Int)) = false := beq_no (by omega)
                                have hq2 : ((j : Int) + 1 == (O : Int)) = false := beq_no (by omega)
                                clear hx hc hP hy hst hH4 hye
                                go_wp2
                                go_roundw
                                case rel => exact ⟨j + 1, by omega, by go_num, by rw [← HY.out], KB.out⟩
                                case measure => simp [intOf]; omega
                            · obtain rfl : j = O := by omega
                              have hji : ¬ (j : Int) + 1 ≤ (j : Int) := by omega
                              have BE16 := Lib.hid (BE15.out.trans (KB.out.mono BE15.out.size))
                              obtain ⟨w16, hwr⟩ : ∃ w16, w16 = wr := ⟨_, rfl⟩
                              subst hwr
                              clear KB
                              go_wp2_with fail
                              refine (draw_FractionDigits _ xs1 _ (HS1.out.keep BE16.out) HL1.out).mono ?_
                              rintro e y2 ⟨p, q, c, k, rfl, hb⟩
                              have BE17 := Lib.hid (BE16.out.trans (hb.mono BE16.out.size))
                              clear hb
                              have HV1 := Lib.hid (fun w => impl_FractionDigits p q c k w)
                              have HV2 := Lib.hid (fun w => spec_FractionDigits p q c k w)
                              have HVL := Lib.hid (LF_FractionDigits_len p q c k)
                              obtain ⟨ok, hok⟩ : ∃ ok, ok = OK_FractionDigits p q c k := ⟨_, rfl⟩
                              obtain ⟨LL, hLL⟩ : ∃ LL, LL = LF_FractionDigits p q c k := ⟨_, rfl⟩
                              rw [← hok, ← hLL] at HV1 HV2
                              rw [← hLL] at HVL
                              clear hok hLL
                              go_wp2_with fail
                              refine (HV1.out _).mono ?_
                              rintro e w18 ⟨uF, rfl, hr, hb⟩
                              have BE18 := Lib.hid (BE17.out.trans (hb.mono BE17.out.size))
                              have R11 := Lib.hid hr
                              clear hr hb
                              go_wp2_with fail
                              refine (HV2.out _).mono ?_
                              rintro e w19 ⟨uM, rfl, hr, hb⟩
                              have R12 := Lib.hid (R11.out.keep hb)
                              have BE19 := Lib.hid (BE18.out.trans (hb.mono BE18.out.size))
                              have R13 := Lib.hid hr
                              clear hr hb
                              cases ok
                              all_goals
                                go_wp2_with fail
                                refine (qSame_any _ _ LL _ R12.out.sl R13.out.sl HVL.out).mono ?_
                                rintro e w20 ⟨rfl, hb⟩
                                have R14 := Lib.hid (R12.out.keep hb)
                                have R15 := Lib.hid (R13.out.keep hb)
                                have BE20 := Lib.hid (BE19.out.trans (hb.mono BE19.out.size))
                                clear hb
                                go_wp2
                                go_ret
                                exact ⟨rfl, BE20.out⟩
                        · rw [show ROrd m d = none from if_neg hR] at HU1 HU2
                          simp only [Option.getD_none, Option.isSome_none] at HU1 HU2
                          clear hR
                          go_wp2_with fail
                          refine (HU1.out _).mono ?_
                          rintro e w14 ⟨rfl, hb⟩
                          have BE14 := Lib.hid (BE13.out.trans (hb.mono BE13.out.size))
                          clear hb
                          go_wp2_with fail
                          refine (HU2.out _).mono ?_
                          rintro e w15 ⟨rfl, hb⟩
                          have BE15 := Lib.hid (BE14.out.trans (hb.mono BE14.out.size))
                          clear hb
                          go_wp2_with fail
                          refine (draw_FractionDigits _ xs1 _ (HS1.out.keep BE15.out) HL1.out).mono ?_
                          rintro e y2 ⟨p, q, c, k, rfl, hb⟩
                          have BE16 := Lib.hid (BE15.out.trans (hb.mono BE15.out.size))
                          clear hb
                          have HV1 := Lib.hid (fun w => impl_FractionDigits p q c k w)
                          have HV2 := Lib.hid (fun w => spec_FractionDigits p q c k w)
                          have HVL := Lib.hid (LF_FractionDigits_len p q c k)
                          obtain ⟨ok, hok⟩ : ∃ ok, ok = OK_FractionDigits p q c k := ⟨_, rfl⟩
                          obtain ⟨LL, hLL⟩ : ∃ LL, LL = LF_FractionDigits p q c k := ⟨_, rfl⟩
                          rw [← hok, ← hLL] at HV1 HV2
                          rw [← hLL] at HVL
                          clear hok hLL
                          go_wp2_with fail
                          refine (HV1.out _).mono ?_
                          rintro e w17 ⟨uF, rfl, hr, hb⟩
                          have BE17 := Lib.hid (BE16.out.trans (hb.mono BE16.out.size))
                          have R11 := Lib.hid hr
                          clear hr hb
                          go_wp2_with fail
                          refine (HV2.out _).mono ?_
                          rintro e w18 ⟨uM, rfl, hr, hb⟩
                          have R12 := Lib.hid (R11.out.keep hb)
                          have BE18 := Lib.hid (BE17.out.trans (hb.mono BE17.out.size))
                          have R13 := Lib.hid hr
                          clear hr hb
                          cases ok
                          all_goals
                            go_wp2_with fail
                            refine (qSame_any _ _ LL _ R12.out.sl R13.out.sl HVL.out).mono ?_
                            rintro e w19 ⟨rfl, hb⟩
                            have R14 := Lib.hid (R12.out.keep hb)
                            have R15 := Lib.hid (R13.out.keep hb)
                            have BE19 := Lib.hid (BE18.out.trans (hb.mono BE18.out.size))
                            clear hb
                            go_wp2
                            go_ret
                            exact ⟨rfl, BE19.out⟩
            · have h2i : ¬ (p0 : Int) + 2 * (p1 : Int) ≤ 200 := by omega
              as_aux_lemma =>
                go_wp2_with fail
                refine (draw_OrderOf _ xs1 _ (HS1.out.keep BE9.out) HL1.out).mono ?_
                rintro e y1 ⟨m, d, rfl, hb⟩
                have BE10 := Lib.hid (BE9.out.trans (hb.mono BE9.out.size))
                clear hb
                have HU1 := Lib.hid (fun w => impl_OrderOf m d w)
                have HU2 := Lib.hid (fun w => spec_OrderOf m d w)
                simp only [optRes] at HU1 HU2
                by_cases hR : Bas d ∧ Den m ∧ Nat.gcd d.toNat m.toNat = 1
                · skip
                  obtain ⟨⟨hb1, hb2⟩, ⟨hd1, hd2⟩, hgd⟩ := hR
                  obtain ⟨M, rfl⟩ : ∃ M : Nat, m = (M : Int) := ⟨m.toNat, by omega⟩
                  obtain ⟨D, rfl⟩ : ∃ D : Nat, d = (D : Int) := ⟨d.toNat, by omega⟩
                  have hM : 0 < M := by omega
                  have hM2 : M ≤ 2000 := by omega
                  have hD : D ≤ 16 := by omega
                  have hgd2 : Nat.gcd D M = 1 := by simpa using hgd
                  have eO : ROrd (M : Int) (D : Int) = some ((ordN D M : Nat) : Int) := by rw [ord_at (by omega) hD hM hM2, if_pos hgd2]
                  rw [eO] at HU1 HU2
                  simp only [Option.getD_some, Option.isSome_some] at HU1 HU2
                  obtain ⟨o1, o2, o3, o4⟩ := ord_spec hgd2 hM
                  have HO3 := Lib.hid o3
                  have HO4 := Lib.hid o4
                  obtain ⟨O, hO⟩ : ∃ O, O = ordN D M := ⟨_, rfl⟩
                  rw [← hO] at HU1 HU2 o1 o2 HO3 HO4
                  clear hO eO o3 o4 hgd hgd2
                  go_wp2_with fail
                  refine (HU1.out _).mono ?_
                  rintro e w11 ⟨rfl, hb⟩
                  have BE11 := Lib.hid (BE10.out.trans (hb.mono BE10.out.size))
                  clear hb
                  go_wp2_with fail
                  refine (HU2.out _).mono ?_
                  rintro e w12 ⟨rfl, hb⟩
                  have BE12 := Lib.hid (BE11.out.trans (hb.mono BE11.out.size))
                  clear hb
                  obtain ⟨e1, he1⟩ : ∃ e1, e1 = 1 % M := ⟨_, rfl⟩
                  have HE1 := Lib.hid he1
                  have he1M : e1 < M := by rw [he1]; exact Nat.mod_lt _ hM
                  rw [← he1] at HO3 HO4
                  have ht1 : Int.tmod 1 (M : Int) = (e1 : Int) := by rw [Int.tmod_eq_emod_of_nonneg (by omega), he1]; rfl
                  have ht2 : (1 : Int) % (M : Int) = (e1 : Int) := by rw [he1]; rfl
                  have hM0 : (M : Int) ≠ 0 := by omega
                  have hM1 : ((M : Int) == 0) = false := beq_no hM0
                  clear he1
                  go_wp2
                  go_loopw [32, 33] (fun p i wr => ∃ j : Nat, j ≤ O ∧ i = .int .i64 ((j : Int) + 1) ∧ p = .int .i64 ((it (mb D M) j e1 : Nat) : Int) ∧ Below w12.heap.size w12 wr) (fun _ i _ => (O : Int).toNat + 1 - (intOf i).toNat)
                  case atStart => exact ⟨0, Nat.zero_le _, rfl, rfl, Below.refl _ _⟩
                  case round =>
                    obtain ⟨j, hj, rfl, rfl, hb⟩ := hrel
                    have KB := Lib.hid hb
                    clear hb
                    by_cases hlt : j < O
                    · have hji : (j : Int) + 1 ≤ (O : Int) := by omega
                      have hit := it_lt (mb_into (b := D) hM) j he1M
                      have hst : it (mb D M) (j + 1) e1 = it (mb D M) j e1 * (D % M) % M := by rw [mb_less]; rfl
                      have hH4 := HO4.out (j + 1) (by omega)
                      obtain ⟨x, hx⟩ : ∃ x, x = it (mb D M) j e1 := ⟨_, rfl⟩
                      rw [← hx] at hit hst ⊢
                      obtain ⟨c, hc⟩ : ∃ c, c = D % M := ⟨_, rfl⟩
                      rw [← hc] at hst
                      have hcM : c ≤ 16 := by rw [hc]; exact Nat.le_trans (Nat.mod_le _ _) hD
                      have hc1 : Int.tmod (D : Int) (M : Int) = (c : Int) := by rw [Int.tmod_eq_emod_of_nonneg (by omega), hc]; rfl
                      have hc2 : (D : Int) % (M : Int) = (c : Int) := by rw [hc]; rfl
                      obtain ⟨P, hP⟩ : ∃ P, P = x * c := ⟨_, rfl⟩
                      have hPb : P ≤ 32000 := by rw [hP]; exact Nat.mul_le_mul (show x ≤ 2000 by omega) hcM
                      have hP2 : (x : Int) * (c : Int) = (P : Int) := by rw [hP]; simp
                      rw [← hP] at hst
                      obtain ⟨y, hy⟩ : ∃ y, y = it (mb D M) (j + 1) e1 := ⟨_, rfl⟩
                      have HY := Lib.hid hy
                      rw [← hy] at hst hH4
                      have hyM : y < M := by rw [hst]; exact Nat.mod_lt _ hM
                      have hp1 : Int.tmod (P : Int) (M : Int) = (y : Int) := by rw [Int.tmod_eq_emod_of_nonneg (by omega), hst]; rfl
                      have hp2 : (P : Int) % (M : Int) = (y : Int) := by rw [hst]; rfl
                      by_cases hjO : j + 1 = O
                      · have hye : y = e1 := by rw [HY.out, hjO]; exact HO3.out
                        have hq1 : ((y : Int) == (e1 : Int)) = true := by rw [hye]; simp
                        have hq2 : ((j : Int) + 1 == (O : Int)) = true := by rw [← hjO]; simp
                        clear hx hc hP hy hst hH4 hye
                        go_wp2
                        go_roundw
                        case rel => exact ⟨j + 1, by omega, by go_num, by rw [← HY.out], KB.out⟩
                        case measure => simp [intOf]; omega
                      · have hye : y ≠ e1 := fun e => hH4 (by omega) e
                        have hq1 : ((y : Int) == (e1 : Int)) = false := beq_no (by omega)
                        have hq2 : ((j : Int) + 1 == (O : Int)) = false := beq_no (by omega)
                        clear hx hc hP hy hst hH4 hye
                        go_wp2
                        go_roundw
                        case rel => exact ⟨j + 1, by omega, by go_num, by rw [← HY.out], KB.out⟩
                        case measure => simp [intOf]; omega
                    · obtain rfl : j = O := by omega
                      have hji : ¬ (j : Int) + 1 ≤ (j : Int) := by omega
                      have BE13 := Lib.hid (BE12.out.trans (KB.out.mono BE12.out.size))
                      obtain ⟨w13, hwr⟩ : ∃ w13, w13 = wr := ⟨_, rfl⟩
                      subst hwr
                      clear KB
                      go_wp2_with fail
                      refine (draw_FractionDigits _ xs1 _ (HS1.out.keep BE13.out) HL1.out).mono ?_
                      rintro e y2 ⟨p, q, c, k, rfl, hb⟩
                      have BE14 := Lib.hid (BE13.out.trans (hb.mono BE13.out.size))
                      clear hb
                      have HV1 := Lib.hid (fun w => impl_FractionDigits p q c k w)
                      have HV2 := Lib.hid (fun w => spec_FractionDigits p q c k w)
                      have HVL := Lib.hid (LF_FractionDigits_len p q c k)
                      obtain ⟨ok, hok⟩ : ∃ ok, ok = OK_FractionDigits p q c k := ⟨_, rfl⟩
                      obtain ⟨LL, hLL⟩ : ∃ LL, LL = LF_FractionDigits p q c k := ⟨_, rfl⟩
                      rw [← hok, ← hLL] at HV1 HV2
                      rw [← hLL] at HVL
                      clear hok hLL
                      go_wp2_with fail
                      refine (HV1.out _).mono ?_
                      rintro e w15 ⟨uF, rfl, hr, hb⟩
                      have BE15 := Lib.hid (BE14.out.trans (hb.mono BE14.out.size))
                      have R9 := Lib.hid hr
                      clear hr hb
                      go_wp2_with fail
                      refine (HV2.out _).mono ?_
                      rintro e w16 ⟨uM, rfl, hr, hb⟩
                      have R10 := Lib.hid (R9.out.keep hb)
                      have BE16 := Lib.hid (BE15.out.trans (hb.mono BE15.out.size))
                      have R11 := Lib.hid hr
                      clear hr hb
                      cases ok
                      all_goals
                        go_wp2_with fail
                        refine (qSame_any _ _ LL _ R10.out.sl R11.out.sl HVL.out).mono ?_
                        rintro e w17 ⟨rfl, hb⟩
                        have R12 := Lib.hid (R10.out.keep hb)
                        have R13 := Lib.hid (R11.out.keep hb)
                        have BE17 := Lib.hid (BE16.out.trans (hb.mono BE16.out.size))
                        clear hb
                        go_wp2
                        go_ret
                        exact ⟨rfl, BE17.out⟩
                · rw [show ROrd m d = none from if_neg hR] at HU1 HU2
                  simp only [Option.getD_none, Option.isSome_none] at HU1 HU2
                  clear hR
                  go_wp2_with fail
                  refine (HU1.out _).mono ?_
                  rintro e w11 ⟨rfl, hb⟩
                  have BE11 := Lib.hid (BE10.out.trans (hb.mono BE10.out.size))
                  clear hb
                  go_wp2_with fail
                  refine (HU2.out _).mono ?_
                  rintro e w12 ⟨rfl, hb⟩
                  have BE12 := Lib.hid (BE11.out.trans (hb.mono BE11.out.size))
                  clear hb
                  go_wp2_with fail
                  refine (draw_FractionDigits _ xs1 _ (HS1.out.keep BE12.out) HL1.out).mono ?_
                  rintro e y2 ⟨p, q, c, k, rfl, hb⟩
                  have BE13 := Lib.hid (BE12.out.trans (hb.mono BE12.out.size))
                  clear hb
                  have HV1 := Lib.hid (fun w => impl_FractionDigits p q c k w)
                  have HV2 := Lib.hid (fun w => spec_FractionDigits p q c k w)
                  have HVL := Lib.hid (LF_FractionDigits_len p q c k)
                  obtain ⟨ok, hok⟩ : ∃ ok, ok = OK_FractionDigits p q c k := ⟨_, rfl⟩
                  obtain ⟨LL, hLL⟩ : ∃ LL, LL = LF_FractionDigits p q c k := ⟨_, rfl⟩
                  rw [← hok, ← hLL] at HV1 HV2
                  rw [← hLL] at HVL
                  clear hok hLL
                  go_wp2_with fail
                  refine (HV1.out _).mono ?_
                  rintro e w14 ⟨uF, rfl, hr, hb⟩
                  have BE14 := Lib.hid (BE13.out.trans (hb.mono BE13.out.size))
                  have R9 := Lib.hid hr
                  clear hr hb
                  go_wp2_with fail
                  refine (HV2.out _).mono ?_
                  rintro e w15 ⟨uM, rfl, hr, hb⟩
                  have R10 := Lib.hid (R9.out.keep hb)
                  have BE15 := Lib.hid (BE14.out.trans (hb.mono BE14.out.size))
                  have R11 := Lib.hid hr
                  clear hr hb
                  cases ok
                  all_goals
                    go_wp2_with fail
                    refine (qSame_any _ _ LL _ R10.out.sl R11.out.sl HVL.out).mono ?_
                    rintro e w16 ⟨rfl, hb⟩
                    have R12 := Lib.hid (R10.out.keep hb)
                    have R13 := Lib.hid (R11.out.keep hb)
                    have BE16 := Lib.hid (BE15.out.trans (hb.mono BE15.out.size))
                    clear hb
                    go_wp2
                    go_ret
                    exact ⟨rfl, BE16.out⟩
        · have d1 : ((q : Int) == 1) = false := beq_no (by omega)
          clear hq1 HCQ hqle
          as_aux_lemma =>
            by_cases h2 : p0 + 2 * p1 ≤ 200
            · have h2i : (p0 : Int) + 2 * (p1 : Int) ≤ 200 := by omega
              have HFD := Lib.hid (fun w => impl_FractionDigits (A : Int) (N : Int) (B : Int) ((p0 : Int) + 2 * (p1 : Int)) w)
              have hfr : Frc (A : Int) (N : Int) (B : Int) ∧ 0 ≤ (p0 : Int) + 2 * (p1 : Int) ∧ (p0 : Int) + 2 * (p1 : Int) ≤ 200 := ⟨HFR.out, by omega, h2i⟩
              have eO : OK_FractionDigits (A : Int) (N : Int) (B : Int) ((p0 : Int) + 2 * (p1 : Int)) = true := decide_eq_true hfr
              have eL : LF_FractionDigits (A : Int) (N : Int) (B : Int) ((p0 : Int) + 2 * (p1 : Int)) = fdg A N B (p0 + 2 * p1) := by unfold LF_FractionDigits; rw [if_pos hfr, show ((p0 : Int) + 2 * (p1 : Int)).toNat = p0 + 2 * p1 by omega]; rfl
              rw [eO, eL] at HFD
              have HDG := Lib.hid (fun i (hi : i < p0 + 2 * p1) => fdg_get (a := A) (n := N) (b := B) hi)
              have hdl := fdg_len A N B (p0 + 2 * p1)
              obtain ⟨DD, hDD⟩ : ∃ DD, DD = fdg A N B (p0 + 2 * p1) := ⟨_, rfl⟩
              rw [← hDD] at HFD HDG hdl
              clear hDD eO eL hfr
              have HOK := Lib.hid (show OK_RepetendOf (A : Int) (N : Int) (B : Int) = true from decide_eq_true ⟨HFR.out, by show pA A N B ≤ 400; rw [← HP1.out]; omega⟩)
              have HLR := Lib.hid (show LF_RepetendOf (A : Int) (N : Int) (B : Int) = rpt A N B by unfold LF_RepetendOf; rw [if_pos ⟨HFR.out, by show pA A N B ≤ 400; rw [← HP1.out]; omega⟩]; rfl)
              have hkr := HKR.out.trans HOK.out
              clear hkr
              have RZ := R8.out
              rw [HLR.out] at RZ
              have RZH := Lib.hid RZ
              clear RZ
              go_wp2_with fail
              refine (HFD.out _).mono ?_
              rintro e w10 ⟨uD, rfl, hr, hb⟩
              have R9 := Lib.hid (RZH.out.keep hb)
              have BE10 := Lib.hid (BE9.out.trans (hb.mono BE9.out.size))
              have R10 := Lib.hid hr
              clear hr hb
              have hrl := rpt_len A N B
              rw [← HP1.out] at hrl
              obtain ⟨gR, oR, cR, hRe, hgR, hzR⟩ := sl_lies R9.out.sl (by rw [hrl]; omega)
              obtain ⟨gD, oD, cD, hDe, hgD, hzD⟩ := sl_lies R10.out.sl (by rw [hdl]; omega)
              subst hRe
              subst hDe
              rw [hrl, hdl]
              have HZR := Lib.hid (fun j (hj : j < p1) => (hzR j (by rw [hrl]; exact hj)).trans (by rw [rpt_get (by rw [← HP1.out]; exact hj), ← HP0.out]))
              have HZD := Lib.hid (fun j (hj : j < p0 + 2 * p1) => (hzD j (by rw [hdl]; exact hj)).trans (by rw [HDG.out j hj]))
              clear hzR hzD hrl hdl
              obtain ⟨KD, hKD⟩ : ∃ KD, KD = p0 + 2 * p1 := ⟨_, rfl⟩
              have HKD := Lib.hid hKD
              rw [← hKD]
              have hkd : (KD : Int) = (p0 : Int) + 2 * (p1 : Int) := by omega
              have HKI := Lib.hid hkd
              have hKb : KD ≤ 200 := by omega
              clear hKD hkd
              go_wp2
              go_loopw [22] (fun i wr => ∃ k : Nat, k ≤ p1 ∧ i = .int .i64 ((p0 : Int) + (k : Int)) ∧ Below w10.heap.size w10 wr) (fun i _ => p0 + p1 - (intOf i).toNat)
              case atStart => exact ⟨0, Nat.zero_le _, by first | rfl | (congr 1; omega), Below.refl _ _⟩
              case round =>
                obtain ⟨r, hr, rfl, hb⟩ := hrel
                have KB := Lib.hid hb
                clear hb
                obtain ⟨k, hk⟩ : ∃ k, k = p0 + r := ⟨_, rfl⟩
                have hki : (p0 : Int) + (r : Int) = (k : Int) := by omega
                rw [hki]
                by_cases hlt : r < p1
                · have hkl : (k : Int) < (p0 : Int) + (p1 : Int) := by omega
                  obtain ⟨t, ht⟩ : ∃ t, t = k + p1 := ⟨_, rfl⟩
                  have hti : (k : Int) + (p1 : Int) = (t : Int) := by omega
                  have hri : (k : Int) - (p0 : Int) = (r : Int) := by omega
                  have hKK := HKI.out
                  have htK : (t : Int) < (KD : Int) := by omega
                  have hkK : (k : Int) < (KD : Int) := by omega
                  have hrp : (r : Int) < (p1 : Int) := by omega
                  have htK2 : t < KD := by omega
                  have hkK2 : k < KD := by omega
                  have zk := (KB.out.cell (p := ⟨gD, oD + k, none⟩) hgD).trans (HZD.out k (by rw [← HKD.out]; exact hkK2))
                  have zt := (KB.out.cell (p := ⟨gD, oD + t, none⟩) hgD).trans (HZD.out t (by rw [← HKD.out]; exact htK2))
                  have zr := (KB.out.cell (p := ⟨gR, oR + r, none⟩) hgR).trans (HZR.out r hlt)
                  rw [ht, HP1.out, dig_again HFA.out.1 HFA.out.2.1 HFA.out.2.2 (by rw [← HP0.out]; omega), ← HP1.out, ← ht] at zt
                  rw [← hk] at zr
                  obtain ⟨dd, hdd⟩ : ∃ dd, dd = it (mb B N) k A * B / N := ⟨_, rfl⟩
                  rw [← hdd] at zk zt zr
                  clear hdd ht hKK
                  have hk1 : (k : Int) + 1 = (p0 : Int) + ((r + 1 : Nat) : Int) := by omega
                  have HK1 := Lib.hid hk1
                  clear hk1
                  clear hk
                  go_wp2
                  go_quiet (fail)
                  go_wp2
                  go_roundw
                  case rel => exact ⟨r + 1, by omega, by first | rfl | (rw [HK1.out]) | (rw [← HK1.out]; go_num), below_drewP KB.out _⟩
                  case measure => simp [intOf]; omega
                · have hkl : ¬ (k : Int) < (p0 : Int) + (p1 : Int) := by omega
                  clear hki hk
                  have HZW := Lib.hid (fun j (hj : j < KD) => (KB.out.cell (p := ⟨gD, oD + j, none⟩) hgD).trans (HZD.out j (by rw [← HKD.out]; exact hj)))
                  have hgW := Nat.lt_of_lt_of_le hgD KB.out.size
                  have BE11 := Lib.hid (BE10.out.trans (KB.out.mono BE10.out.size))
                  obtain ⟨w11, hwr⟩ : ∃ w11, w11 = wr := ⟨_, rfl⟩
                  subst hwr
                  clear KB
                  go_wp2
                  go_loopw [23, 207] (fun l i wr => ∃ j : Nat, j ≤ KD ∧ l = .int .i64 ((it (mb B N) j A : Nat) : Int) ∧ i = .int .i64 (j : Int) ∧ Below w11.heap.size w11 wr) (fun _ i _ => KD - (intOf i).toNat)
                  case atStart => exact ⟨0, Nat.zero_le _, rfl, rfl, Below.refl _ _⟩
                  case round =>
                    obtain ⟨j, hj, rfl, rfl, hb⟩ := hrel
                    have KB := Lib.hid hb
                    clear hb
                    by_cases hlt : j < KD
                    · have hji : (j : Int) < (KD : Int) := by omega
                      have zj := (KB.out.cell (p := ⟨gD, oD + j, none⟩) hgW).trans (HZW.out j hlt)
                      have hxN := it_lt (mb_into (b := B) HFA.out.2.1) j HFA.out.2.2
                      have hdl := dig_lt (b := B) HFA.out.2.1 HFA.out.1 hxN
                      have hst : it (mb B N) (j + 1) A = it (mb B N) j A * B % N := rfl
                      obtain ⟨x, hx⟩ : ∃ x, x = it (mb B N) j A := ⟨_, rfl⟩
                      rw [← hx] at hxN hdl hst zj ⊢
                      obtain ⟨P, hP⟩ : ∃ P, P = x * B := ⟨_, rfl⟩
                      have hPb : P ≤ 32000 := by rw [hP]; exact Nat.mul_le_mul (show x ≤ 2000 by omega) hB16
                      have hP2 : (x : Int) * (B : Int) = (P : Int) := by rw [hP]; simp
                      rw [← hP] at hdl hst zj
                      obtain ⟨dd, hdd⟩ : ∃ dd, dd = P / N := ⟨_, rfl⟩
                      rw [← hdd] at hdl zj
                      have hq1 : Int.tdiv (P : Int) (N : Int) = (dd : Int) := by rw [Int.tdiv_eq_ediv_of_nonneg (by omega), hdd]; rfl
                      have hq2 : (P : Int) / (N : Int) = (dd : Int) := by rw [hdd]; rfl
                      obtain ⟨y, hy⟩ : ∃ y, y = it (mb B N) (j + 1) A := ⟨_, rfl⟩
                      have HY := Lib.hid hy
                      rw [← hy] at hst
                      have hr1 : Int.tmod (P : Int) (N : Int) = (y : Int) := by rw [Int.tmod_eq_emod_of_nonneg (by omega), hst]; rfl
                      have hr2 : (P : Int) % (N : Int) = (y : Int) := by rw [hst]; rfl
                      have hN0 : (N : Int) ≠ 0 := by omega
                      have hN1 : ((N : Int) == 0) = false := beq_no hN0
                      have hdb : ¬ (B : Int) ≤ (dd : Int) := by omega
                      have hd0 : ¬ (dd : Int) < 0 := by omega
                      have hdb2 : (dd : Int) < (B : Int) := by omega
                      clear hx hP hdd hy hst
                      go_wp2
                      go_roundw
                      case rel => exact ⟨j + 1, by omega, by rw [← HY.out], by go_num, KB.out⟩
                      case measure => simp [intOf]; omega
                    · obtain rfl : j = KD := by omega
                      have BE12 := Lib.hid (BE11.out.trans (KB.out.mono BE11.out.size))
                      obtain ⟨w12, hwr⟩ : ∃ w12, w12 = wr := ⟨_, rfl⟩
                      subst hwr
                      clear KB
                      as_aux_lemma =>
                        go_wp2_with fail
                        refine (draw_OrderOf _ xs1 _ (HS1.out.keep BE12.out) HL1.out).mono ?_
                        rintro e y1 ⟨m, d, rfl, hb⟩
                        have BE13 := Lib.hid (BE12.out.trans (hb.mono BE12.out.size))
                        clear hb
                        have HU1 := Lib.hid (fun w => impl_OrderOf m d w)
                        have HU2 := Lib.hid (fun w => spec_OrderOf m d w)
                        simp only [optRes] at HU1 HU2
                        by_cases hR : Bas d ∧ Den m ∧ Nat.gcd d.toNat m.toNat = 1
                        · skip
                          obtain ⟨⟨hb1, hb2⟩, ⟨hd1, hd2⟩, hgd⟩ := hR
                          obtain ⟨M, rfl⟩ : ∃ M : Nat, m = (M : Int) := ⟨m.toNat, by omega⟩
                          obtain ⟨D, rfl⟩ : ∃ D : Nat, d = (D : Int) := ⟨d.toNat, by omega⟩
                          have hM : 0 < M := by omega
                          have hM2 : M ≤ 2000 := by omega
                          have hD : D ≤ 16 := by omega
                          have hgd2 : Nat.gcd D M = 1 := by simpa using hgd
                          have eO : ROrd (M : Int) (D : Int) = some ((ordN D M : Nat) : Int) := by rw [ord_at (by omega) hD hM hM2, if_pos hgd2]
                          rw [eO] at HU1 HU2
                          simp only [Option.getD_some, Option.isSome_some] at HU1 HU2
                          obtain ⟨o1, o2, o3, o4⟩ := ord_spec hgd2 hM
                          have HO3 := Lib.hid o3
                          have HO4 := Lib.hid o4
                          obtain ⟨O, hO⟩ : ∃ O, O = ordN D M := ⟨_, rfl⟩
                          rw [← hO] at HU1 HU2 o1 o2 HO3 HO4
                          clear hO eO o3 o4 hgd hgd2
                          go_wp2_with fail
                          refine (HU1.out _).mono ?_
                          rintro e w14 ⟨rfl, hb⟩
                          have BE14 := Lib.hid (BE13.out.trans (hb.mono BE13.out.size))
                          clear hb
                          go_wp2_with fail
                          refine (HU2.out _).mono ?_
                          rintro e w15 ⟨rfl, hb⟩
                          have BE15 := Lib.hid (BE14.out.trans (hb.mono BE14.out.size))
                          clear hb
                          obtain ⟨e1, he1⟩ : ∃ e1, e1 = 1 % M := ⟨_, rfl⟩
                          have HE1 := Lib.hid he1
                          have he1M : e1 < M := by rw [he1]; exact Nat.mod_lt _ hM
                          rw [← he1] at HO3 HO4
                          have ht1 : Int.tmod 1 (M : Int) = (e1 : Int) := by rw [Int.tmod_eq_emod_of_nonneg (by omega), he1]; rfl
                          have ht2 : (1 : Int) % (M : Int) = (e1 : Int) := by rw [he1]; rfl
                          have hM0 : (M : Int) ≠ 0 := by omega
                          have hM1 : ((M : Int) == 0) = false := beq_no hM0
                          clear he1
                          go_wp2
                          go_loopw [32, 33] (fun p i wr => ∃ j : Nat, j ≤ O ∧ i = .int .i64 ((j : Int) + 1) ∧ p = .int .i64 ((it (mb D M) j e1 : Nat) : Int) ∧ Below w15.heap.size w15 wr) (fun _ i _ => (O : Int).toNat + 1 - (intOf i).toNat)
                          case atStart => exact ⟨0, Nat.zero_le _, rfl, rfl, Below.refl _ _⟩
                          case round =>
                            obtain ⟨j, hj, rfl, rfl, hb⟩ := hrel
                            have KB := Lib.hid hb
                            clear hb
                            by_cases hlt : j < O
                            · have hji : (j : Int) + 1 ≤ (O : Int) := by omega
                              have hit := it_lt (mb_into (b := D) hM) j he1M
                              have hst : it (mb D M) (j + 1) e1 = it (mb D M) j e1 * (D % M) % M := by rw [mb_less]; rfl
                              have hH4 := HO4.out (j + 1) (by omega)
                              obtain ⟨x, hx⟩ : ∃ x, x = it (mb D M) j e1 := ⟨_, rfl⟩
                              rw [← hx] at hit hst ⊢
                              obtain ⟨c, hc⟩ : ∃ c, c = D % M := ⟨_, rfl⟩
                              rw [← hc] at hst
                              have hcM : c ≤ 16 := by rw [hc]; exact Nat.le_trans (Nat.mod_le _ _) hD
                              have hc1 : Int.tmod (D : Int) (M : Int) = (c : Int) := by rw [Int.tmod_eq_emod_of_nonneg (by omega), hc]; rfl
                              have hc2 : (D : Int) % (M : Int) = (c : Int) := by rw [hc]; rfl
                              obtain ⟨P, hP⟩ : ∃ P, P = x * c := ⟨_, rfl⟩
                              have hPb : P ≤ 32000 := by rw [hP]; exact Nat.mul_le_mul (show x ≤ 2000 by omega) hcM
                              have hP2 : (x : Int) * (c : Int) = (P : Int) := by rw [hP]; simp
                              rw [← hP] at hst
                              obtain ⟨y, hy⟩ : ∃ y, y = it (mb D M) (j + 1) e1 := ⟨_, rfl⟩
                              have HY := Lib.hid hy
                              rw [← hy] at hst hH4
                              have hyM : y < M := by rw [hst]; exact Nat.mod_lt _ hM
                              have hp1 : Int.tmod (P : Int) (M : Int) = (y : Int) := by rw [Int.tmod_eq_emod_of_nonneg (by omega), hst]; rfl
                              have hp2 : (P : Int) % (M : Int) = (y : Int) := by rw [hst]; rfl
                              by_cases hjO : j + 1 = O
                              · have hye : y = e1 := by rw [HY.out, hjO]; exact HO3.out
                                have hq1 : ((y : Int) == (e1 : Int)) = true := by rw [hye]; simp
                                have hq2 : ((j : Int) + 1 == (O : Int)) = true := by rw [← hjO]; simp
                                clear hx hc hP hy hst hH4 hye
                                go_wp2
                                go_roundw
                                case rel => exact ⟨j + 1, by omega, by go_num, by rw [← HY.out], KB.out⟩
                                case measure => simp [intOf]; omega
                              · have hye : y ≠ e1 := fun e => hH4 (by omega) e
                                have hq1 : ((y : Int) == (e1 : Int)) = false := beq_no (by omega)
                                have hq2 : ((j : Int) + 1 == (O : Int)) = false := beq_no (by omega)
                                clear hx hc hP hy hst hH4 hye
                                go_wp2
                                go_roundw
                                case rel => exact ⟨j + 1, by omega, by go_num, by rw [← HY.out], KB.out⟩
                                case measure => simp [intOf]; omega
                            · obtain rfl : j = O := by omega
                              have hji : ¬ (j : Int) + 1 ≤ (j : Int) := by omega
                              have BE16 := Lib.hid (BE15.out.trans (KB.out.mono BE15.out.size))
                              obtain ⟨w16, hwr⟩ : ∃ w16, w16 = wr := ⟨_, rfl⟩
                              subst hwr
                              clear KB
                              go_wp2_with fail
                              refine (draw_FractionDigits _ xs1 _ (HS1.out.keep BE16.out) HL1.out).mono ?_
                              rintro e y2 ⟨p, q, c, k, rfl, hb⟩
                              have BE17 := Lib.hid (BE16.out.trans (hb.mono BE16.out.size))
                              clear hb
                              have HV1 := Lib.hid (fun w => impl_FractionDigits p q c k w)
                              have HV2 := Lib.hid (fun w => spec_FractionDigits p q c k w)
                              have HVL := Lib.hid (LF_FractionDigits_len p q c k)
                              obtain ⟨ok, hok⟩ : ∃ ok, ok = OK_FractionDigits p q c k := ⟨_, rfl⟩
                              obtain ⟨LL, hLL⟩ : ∃ LL, LL = LF_FractionDigits p q c k := ⟨_, rfl⟩
                              rw [← hok, ← hLL] at HV1 HV2
                              rw [← hLL] at HVL
                              clear hok hLL
                              go_wp2_with fail
                              refine (HV1.out _).mono ?_
                              rintro e w18 ⟨uF, rfl, hr, hb⟩
                              have BE18 := Lib.hid (BE17.out.trans (hb.mono BE17.out.size))
                              have R11 := Lib.hid hr
                              clear hr hb
                              go_wp2_with fail
                              refine (HV2.out _).mono ?_
                              rintro e w19 ⟨uM, rfl, hr, hb⟩
                              have R12 := Lib.hid (R11.out.keep hb)
                              have BE19 := Lib.hid (BE18.out.trans (hb.mono BE18.out.size))
                              have R13 := Lib.hid hr
                              clear hr hb
                              cases ok
                              all_goals
                                go_wp2_with fail
                                refine (qSame_any _ _ LL _ R12.out.sl R13.out.sl HVL.out).mono ?_
                                rintro e w20 ⟨rfl, hb⟩
                                have R14 := Lib.hid (R12.out.keep hb)
                                have R15 := Lib.hid (R13.out.keep hb)
                                have BE20 := Lib.hid (BE19.out.trans (hb.mono BE19.out.size))
                                clear hb
                                go_wp2
                                go_ret
                                exact ⟨rfl, BE20.out⟩
                        · rw [show ROrd m d = none from if_neg hR] at HU1 HU2
                          simp only [Option.getD_none, Option.isSome_none] at HU1 HU2
                          clear hR
                          go_wp2_with fail
                          refine (HU1.out _).mono ?_
                          rintro e w14 ⟨rfl, hb⟩
                          have BE14 := Lib.hid (BE13.out.trans (hb.mono BE13.out.size))
                          clear hb
                          go_wp2_with fail
                          refine (HU2.out _).mono ?_
                          rintro e w15 ⟨rfl, hb⟩
                          have BE15 := Lib.hid (BE14.out.trans (hb.mono BE14.out.size))
                          clear hb
                          go_wp2_with fail
                          refine (draw_FractionDigits _ xs1 _ (HS1.out.keep BE15.out) HL1.out).mono ?_
                          rintro e y2 ⟨p, q, c, k, rfl, hb⟩
                          have BE16 := Lib.hid (BE15.out.trans (hb.mono BE15.out.size))
                          clear hb
                          have HV1 := Lib.hid (fun w => impl_FractionDigits p q c k w)
                          have HV2 := Lib.hid (fun w => spec_FractionDigits p q c k w)
                          have HVL := Lib.hid (LF_FractionDigits_len p q c k)
                          obtain ⟨ok, hok⟩ : ∃ ok, ok = OK_FractionDigits p q c k := ⟨_, rfl⟩
                          obtain ⟨LL, hLL⟩ : ∃ LL, LL = LF_FractionDigits p q c k := ⟨_, rfl⟩
                          rw [← hok, ← hLL] at HV1 HV2
                          rw [← hLL] at HVL
                          clear hok hLL
                          go_wp2_with fail
                          refine (HV1.out _).mono ?_
                          rintro e w17 ⟨uF, rfl, hr, hb⟩
                          have BE17 := Lib.hid (BE16.out.trans (hb.mono BE16.out.size))
                          have R11 := Lib.hid hr
                          clear hr hb
                          go_wp2_with fail
                          refine (HV2.out _).mono ?_
                          rintro e w18 ⟨uM, rfl, hr, hb⟩
                          have R12 := Lib.hid (R11.out.keep hb)
                          have BE18 := Lib.hid (BE17.out.trans (hb.mono BE17.out.size))
                          have R13 := Lib.hid hr
                          clear hr hb
                          cases ok
                          all_goals
                            go_wp2_with fail
                            refine (qSame_any _ _ LL _ R12.out.sl R13.out.sl HVL.out).mono ?_
                            rintro e w19 ⟨rfl, hb⟩
                            have R14 := Lib.hid (R12.out.keep hb)
                            have R15 := Lib.hid (R13.out.keep hb)
                            have BE19 := Lib.hid (BE18.out.trans (hb.mono BE18.out.size))
                            clear hb
                            go_wp2
                            go_ret
                            exact ⟨rfl, BE19.out⟩
            · have h2i : ¬ (p0 : Int) + 2 * (p1 : Int) ≤ 200 := by omega
              as_aux_lemma =>
                go_wp2_with fail
                refine (draw_OrderOf _ xs1 _ (HS1.out.keep BE9.out) HL1.out).mono ?_
                rintro e y1 ⟨m, d, rfl, hb⟩
                have BE10 := Lib.hid (BE9.out.trans (hb.mono BE9.out.size))
                clear hb
                have HU1 := Lib.hid (fun w => impl_OrderOf m d w)
                have HU2 := Lib.hid (fun w => spec_OrderOf m d w)
                simp only [optRes] at HU1 HU2
                by_cases hR : Bas d ∧ Den m ∧ Nat.gcd d.toNat m.toNat = 1
                · skip
                  obtain ⟨⟨hb1, hb2⟩, ⟨hd1, hd2⟩, hgd⟩ := hR
                  obtain ⟨M, rfl⟩ : ∃ M : Nat, m = (M : Int) := ⟨m.toNat, by omega⟩
                  obtain ⟨D, rfl⟩ : ∃ D : Nat, d = (D : Int) := ⟨d.toNat, by omega⟩
                  have hM : 0 < M := by omega
                  have hM2 : M ≤ 2000 := by omega
                  have hD : D ≤ 16 := by omega
                  have hgd2 : Nat.gcd D M = 1 := by simpa using hgd
                  have eO : ROrd (M : Int) (D : Int) = some ((ordN D M : Nat) : Int) := by rw [ord_at (by omega) hD hM hM2, if_pos hgd2]
                  rw [eO] at HU1 HU2
                  simp only [Option.getD_some, Option.isSome_some] at HU1 HU2
                  obtain ⟨o1, o2, o3, o4⟩ := ord_spec hgd2 hM
                  have HO3 := Lib.hid o3
                  have HO4 := Lib.hid o4
                  obtain ⟨O, hO⟩ : ∃ O, O = ordN D M := ⟨_, rfl⟩
                  rw [← hO] at HU1 HU2 o1 o2 HO3 HO4
                  clear hO eO o3 o4 hgd hgd2
                  go_wp2_with fail
                  refine (HU1.out _).mono ?_
                  rintro e w11 ⟨rfl, hb⟩
                  have BE11 := Lib.hid (BE10.out.trans (hb.mono BE10.out.size))
                  clear hb
                  go_wp2_with fail
                  refine (HU2.out _).mono ?_
                  rintro e w12 ⟨rfl, hb⟩
                  have BE12 := Lib.hid (BE11.out.trans (hb.mono BE11.out.size))
                  clear hb
                  obtain ⟨e1, he1⟩ : ∃ e1, e1 = 1 % M := ⟨_, rfl⟩
                  have HE1 := Lib.hid he1
                  have he1M : e1 < M := by rw [he1]; exact Nat.mod_lt _ hM
                  rw [← he1] at HO3 HO4
                  have ht1 : Int.tmod 1 (M : Int) = (e1 : Int) := by rw [Int.tmod_eq_emod_of_nonneg (by omega), he1]; rfl
                  have ht2 : (1 : Int) % (M : Int) = (e1 : Int) := by rw [he1]; rfl
                  have hM0 : (M : Int) ≠ 0 := by omega
                  have hM1 : ((M : Int) == 0) = false := beq_no hM0
                  clear he1
                  go_wp2
                  go_loopw [32, 33] (fun p i wr => ∃ j : Nat, j ≤ O ∧ i = .int .i64 ((j : Int) + 1) ∧ p = .int .i64 ((it (mb D M) j e1 : Nat) : Int) ∧ Below w12.heap.size w12 wr) (fun _ i _ => (O : Int).toNat + 1 - (intOf i).toNat)
                  case atStart => exact ⟨0, Nat.zero_le _, rfl, rfl, Below.refl _ _⟩
                  case round =>
                    obtain ⟨j, hj, rfl, rfl, hb⟩ := hrel
                    have KB := Lib.hid hb
                    clear hb
                    by_cases hlt : j < O
                    · have hji : (j : Int) + 1 ≤ (O : Int) := by omega
                      have hit := it_lt (mb_into (b := D) hM) j he1M
                      have hst : it (mb D M) (j + 1) e1 = it (mb D M) j e1 * (D % M) % M := by rw [mb_less]; rfl
                      have hH4 := HO4.out (j + 1) (by omega)
                      obtain ⟨x, hx⟩ : ∃ x, x = it (mb D M) j e1 := ⟨_, rfl⟩
                      rw [← hx] at hit hst ⊢
                      obtain ⟨c, hc⟩ : ∃ c, c = D % M := ⟨_, rfl⟩
                      rw [← hc] at hst
                      have hcM : c ≤ 16 := by rw [hc]; exact Nat.le_trans (Nat.mod_le _ _) hD
                      have hc1 : Int.tmod (D : Int) (M : Int) = (c : Int) := by rw [Int.tmod_eq_emod_of_nonneg (by omega), hc]; rfl
                      have hc2 : (D : Int) % (M : Int) = (c : Int) := by rw [hc]; rfl
                      obtain ⟨P, hP⟩ : ∃ P, P = x * c := ⟨_, rfl⟩
                      have hPb : P ≤ 32000 := by rw [hP]; exact Nat.mul_le_mul (show x ≤ 2000 by omega) hcM
                      have hP2 : (x : Int) * (c : Int) = (P : Int) := by rw [hP]; simp
                      rw [← hP] at hst
                      obtain ⟨y, hy⟩ : ∃ y, y = it (mb D M) (j + 1) e1 := ⟨_, rfl⟩
                      have HY := Lib.hid hy
                      rw [← hy] at hst hH4
                      have hyM : y < M := by rw [hst]; exact Nat.mod_lt _ hM
                      have hp1 : Int.tmod (P : Int) (M : Int) = (y : Int) := by rw [Int.tmod_eq_emod_of_nonneg (by omega), hst]; rfl
                      have hp2 : (P : Int) % (M : Int) = (y : Int) := by rw [hst]; rfl
                      by_cases hjO : j + 1 = O
                      · have hye : y = e1 := by rw [HY.out, hjO]; exact HO3.out
                        have hq1 : ((y : Int) == (e1 : Int)) = true := by rw [hye]; simp
                        have hq2 : ((j : Int) + 1 == (O : Int)) = true := by rw [← hjO]; simp
                        clear hx hc hP hy hst hH4 hye
                        go_wp2
                        go_roundw
                        case rel => exact ⟨j + 1, by omega, by go_num, by rw [← HY.out], KB.out⟩
                        case measure => simp [intOf]; omega
                      · have hye : y ≠ e1 := fun e => hH4 (by omega) e
                        have hq1 : ((y : Int) == (e1 : Int)) = false := beq_no (by omega)
                        have hq2 : ((j : Int) + 1 == (O : Int)) = false := beq_no (by omega)
                        clear hx hc hP hy hst hH4 hye
                        go_wp2
                        go_roundw
                        case rel => exact ⟨j + 1, by omega, by go_num, by rw [← HY.out], KB.out⟩
                        case measure => simp [intOf]; omega
                    · obtain rfl : j = O := by omega
                      have hji : ¬ (j : Int) + 1 ≤ (j : Int) := by omega
                      have BE13 := Lib.hid (BE12.out.trans (KB.out.mono BE12.out.size))
                      obtain ⟨w13, hwr⟩ : ∃ w13, w13 = wr := ⟨_, rfl⟩
                      subst hwr
                      clear KB
                      go_wp2_with fail
                      refine (draw_FractionDigits _ xs1 _ (HS1.out.keep BE13.out) HL1.out).mono ?_
                      rintro e y2 ⟨p, q, c, k, rfl, hb⟩
                      have BE14 := Lib.hid (BE13.out.trans (hb.mono BE13.out.size))
                      clear hb
                      have HV1 := Lib.hid (fun w => impl_FractionDigits p q c k w)
                      have HV2 := Lib.hid (fun w => spec_FractionDigits p q c k w)
                      have HVL := Lib.hid (LF_FractionDigits_len p q c k)
                      obtain ⟨ok, hok⟩ : ∃ ok, ok = OK_FractionDigits p q c k := ⟨_, rfl⟩
                      obtain ⟨LL, hLL⟩ : ∃ LL, LL = LF_FractionDigits p q c k := ⟨_, rfl⟩
                      rw [← hok, ← hLL] at HV1 HV2
                      rw [← hLL] at HVL
                      clear hok hLL
                      go_wp2_with fail
                      refine (HV1.out _).mono ?_
                      rintro e w15 ⟨uF, rfl, hr, hb⟩
                      have BE15 := Lib.hid (BE14.out.trans (hb.mono BE14.out.size))
                      have R9 := Lib.hid hr
                      clear hr hb
                      go_wp2_with fail
                      refine (HV2.out _).mono ?_
                      rintro e w16 ⟨uM, rfl, hr, hb⟩
                      have R10 := Lib.hid (R9.out.keep hb)
                      have BE16 := Lib.hid (BE15.out.trans (hb.mono BE15.out.size))
                      have R11 := Lib.hid hr
                      clear hr hb
                      cases ok
                      all_goals
                        go_wp2_with fail
                        refine (qSame_any _ _ LL _ R10.out.sl R11.out.sl HVL.out).mono ?_
                        rintro e w17 ⟨rfl, hb⟩
                        have R12 := Lib.hid (R10.out.keep hb)
                        have R13 := Lib.hid (R11.out.keep hb)
                        have BE17 := Lib.hid (BE16.out.trans (hb.mono BE16.out.size))
                        clear hb
                        go_wp2
                        go_ret
                        exact ⟨rfl, BE17.out⟩
                · rw [show ROrd m d = none from if_neg hR] at HU1 HU2
                  simp only [Option.getD_none, Option.isSome_none] at HU1 HU2
                  clear hR
                  go_wp2_with fail
                  refine (HU1.out _).mono ?_
                  rintro e w11 ⟨rfl, hb⟩
                  have BE11 := Lib.hid (BE10.out.trans (hb.mono BE10.out.size))
                  clear hb
                  go_wp2_with fail
                  refine (HU2.out _).mono ?_
                  rintro e w12 ⟨rfl, hb⟩
                  have BE12 := Lib.hid (BE11.out.trans (hb.mono BE11.out.size))
                  clear hb
                  go_wp2_with fail
                  refine (draw_FractionDigits _ xs1 _ (HS1.out.keep BE12.out) HL1.out).mono ?_
                  rintro e y2 ⟨p, q, c, k, rfl, hb⟩
                  have BE13 := Lib.hid (BE12.out.trans (hb.mono BE12.out.size))
                  clear hb
                  have HV1 := Lib.hid (fun w => impl_FractionDigits p q c k w)
                  have HV2 := Lib.hid (fun w => spec_FractionDigits p q c k w)
                  have HVL := Lib.hid (LF_FractionDigits_len p q c k)
                  obtain ⟨ok, hok⟩ : ∃ ok, ok = OK_FractionDigits p q c k := ⟨_, rfl⟩
                  obtain ⟨LL, hLL⟩ : ∃ LL, LL = LF_FractionDigits p q c k := ⟨_, rfl⟩
                  rw [← hok, ← hLL] at HV1 HV2
                  rw [← hLL] at HVL
                  clear hok hLL
                  go_wp2_with fail
                  refine (HV1.out _).mono ?_
                  rintro e w14 ⟨uF, rfl, hr, hb⟩
                  have BE14 := Lib.hid (BE13.out.trans (hb.mono BE13.out.size))
                  have R9 := Lib.hid hr
                  clear hr hb
                  go_wp2_with fail
                  refine (HV2.out _).mono ?_
                  rintro e w15 ⟨uM, rfl, hr, hb⟩
                  have R10 := Lib.hid (R9.out.keep hb)
                  have BE15 := Lib.hid (BE14.out.trans (hb.mono BE14.out.size))
                  have R11 := Lib.hid hr
                  clear hr hb
                  cases ok
                  all_goals
                    go_wp2_with fail
                    refine (qSame_any _ _ LL _ R10.out.sl R11.out.sl HVL.out).mono ?_
                    rintro e w16 ⟨rfl, hb⟩
                    have R12 := Lib.hid (R10.out.keep hb)
                    have R13 := Lib.hid (R11.out.keep hb)
                    have BE16 := Lib.hid (BE15.out.trans (hb.mono BE15.out.size))
                    clear hb
                    go_wp2
                    go_ret
                    exact ⟨rfl, BE16.out⟩
    · rw [if_neg hg] at HOI
      simp only [optRes, Option.getD_none, Option.isSome_none] at HOI
      obtain ⟨q, hq⟩ : ∃ q, q = Nat.gcd N B := ⟨_, rfl⟩
      have hq1 : q ≠ 1 := by rw [hq, Nat.gcd_comm]; exact hg
      rw [← hq] at HG1
      have d1 : ((q : Int) == 1) = false := beq_no (by omega)
      clear hq hg hq1 HOB HCP HG2
      cases okr
      · skip
        go_wp2_with fail
        refine (HOI.out _).mono ?_
        rintro e w7 ⟨rfl, hb⟩
        have R6 := Lib.hid (R4.out.keep hb)
        have BE7 := Lib.hid (BE6.out.trans (hb.mono BE6.out.size))
        clear hb
        go_wp2_with fail
        refine (HG1.out _).mono ?_
        rintro e w8 ⟨rfl, hb⟩
        have R7 := Lib.hid (R6.out.keep hb)
        have BE8 := Lib.hid (BE7.out.trans (hb.mono BE7.out.size))
        clear hb
        as_aux_lemma =>
          by_cases h2 : p0 + 2 * p1 ≤ 200
          · have h2i : (p0 : Int) + 2 * (p1 : Int) ≤ 200 := by omega
            have HFD := Lib.hid (fun w => impl_FractionDigits (A : Int) (N : Int) (B : Int) ((p0 : Int) + 2 * (p1 : Int)) w)
            have hfr : Frc (A : Int) (N : Int) (B : Int) ∧ 0 ≤ (p0 : Int) + 2 * (p1 : Int) ∧ (p0 : Int) + 2 * (p1 : Int) ≤ 200 := ⟨HFR.out, by omega, h2i⟩
            have eO : OK_FractionDigits (A : Int) (N : Int) (B : Int) ((p0 : Int) + 2 * (p1 : Int)) = true := decide_eq_true hfr
            have eL : LF_FractionDigits (A : Int) (N : Int) (B : Int) ((p0 : Int) + 2 * (p1 : Int)) = fdg A N B (p0 + 2 * p1) := by unfold LF_FractionDigits; rw [if_pos hfr, show ((p0 : Int) + 2 * (p1 : Int)).toNat = p0 + 2 * p1 by omega]; rfl
            rw [eO, eL] at HFD
            have HDG := Lib.hid (fun i (hi : i < p0 + 2 * p1) => fdg_get (a := A) (n := N) (b := B) hi)
            have hdl := fdg_len A N B (p0 + 2 * p1)
            obtain ⟨DD, hDD⟩ : ∃ DD, DD = fdg A N B (p0 + 2 * p1) := ⟨_, rfl⟩
            rw [← hDD] at HFD HDG hdl
            clear hDD eO eL hfr
            have HOK := Lib.hid (show OK_RepetendOf (A : Int) (N : Int) (B : Int) = true from decide_eq_true ⟨HFR.out, by show pA A N B ≤ 400; rw [← HP1.out]; omega⟩)
            have HLR := Lib.hid (show LF_RepetendOf (A : Int) (N : Int) (B : Int) = rpt A N B by unfold LF_RepetendOf; rw [if_pos ⟨HFR.out, by show pA A N B ≤ 400; rw [← HP1.out]; omega⟩]; rfl)
            have hkr := HKR.out.trans HOK.out
            cases hkr
          · have h2i : ¬ (p0 : Int) + 2 * (p1 : Int) ≤ 200 := by omega
            as_aux_lemma =>
              go_wp2_with fail
              refine (draw_OrderOf _ xs1 _ (HS1.out.keep BE8.out) HL1.out).mono ?_
              rintro e y1 ⟨m, d, rfl, hb⟩
              have BE9 := Lib.hid (BE8.out.trans (hb.mono BE8.out.size))
              clear hb
              have HU1 := Lib.hid (fun w => impl_OrderOf m d w)
              have HU2 := Lib.hid (fun w => spec_OrderOf m d w)
              simp only [optRes] at HU1 HU2
              by_cases hR : Bas d ∧ Den m ∧ Nat.gcd d.toNat m.toNat = 1
              · skip
                obtain ⟨⟨hb1, hb2⟩, ⟨hd1, hd2⟩, hgd⟩ := hR
                obtain ⟨M, rfl⟩ : ∃ M : Nat, m = (M : Int) := ⟨m.toNat, by omega⟩
                obtain ⟨D, rfl⟩ : ∃ D : Nat, d = (D : Int) := ⟨d.toNat, by omega⟩
                have hM : 0 < M := by omega
                have hM2 : M ≤ 2000 := by omega
                have hD : D ≤ 16 := by omega
                have hgd2 : Nat.gcd D M = 1 := by simpa using hgd
                have eO : ROrd (M : Int) (D : Int) = some ((ordN D M : Nat) : Int) := by rw [ord_at (by omega) hD hM hM2, if_pos hgd2]
                rw [eO] at HU1 HU2
                simp only [Option.getD_some, Option.isSome_some] at HU1 HU2
                obtain ⟨o1, o2, o3, o4⟩ := ord_spec hgd2 hM
                have HO3 := Lib.hid o3
                have HO4 := Lib.hid o4
                obtain ⟨O, hO⟩ : ∃ O, O = ordN D M := ⟨_, rfl⟩
                rw [← hO] at HU1 HU2 o1 o2 HO3 HO4
                clear hO eO o3 o4 hgd hgd2
                go_wp2_with fail
                refine (HU1.out _).mono ?_
                rintro e w10 ⟨rfl, hb⟩
                have BE10 := Lib.hid (BE9.out.trans (hb.mono BE9.out.size))
                clear hb
                go_wp2_with fail
                refine (HU2.out _).mono ?_
                rintro e w11 ⟨rfl, hb⟩
                have BE11 := Lib.hid (BE10.out.trans (hb.mono BE10.out.size))
                clear hb
                obtain ⟨e1, he1⟩ : ∃ e1, e1 = 1 % M := ⟨_, rfl⟩
                have HE1 := Lib.hid he1
                have he1M : e1 < M := by rw [he1]; exact Nat.mod_lt _ hM
                rw [← he1] at HO3 HO4
                have ht1 : Int.tmod 1 (M : Int) = (e1 : Int) := by rw [Int.tmod_eq_emod_of_nonneg (by omega), he1]; rfl
                have ht2 : (1 : Int) % (M : Int) = (e1 : Int) := by rw [he1]; rfl
                have hM0 : (M : Int) ≠ 0 := by omega
                have hM1 : ((M : Int) == 0) = false := beq_no hM0
                clear he1
                go_wp2
                go_loopw [32, 33] (fun p i wr => ∃ j : Nat, j ≤ O ∧ i = .int .i64 ((j : Int) + 1) ∧ p = .int .i64 ((it (mb D M) j e1 : Nat) : Int) ∧ Below w11.heap.size w11 wr) (fun _ i _ => (O : Int).toNat + 1 - (intOf i).toNat)
                case atStart => exact ⟨0, Nat.zero_le _, rfl, rfl, Below.refl _ _⟩
                case round =>
                  obtain ⟨j, hj, rfl, rfl, hb⟩ := hrel
                  have KB := Lib.hid hb
                  clear hb
                  by_cases hlt : j < O
                  · have hji : (j : Int) + 1 ≤ (O : Int) := by omega
                    have hit := it_lt (mb_into (b := D) hM) j he1M
                    have hst : it (mb D M) (j + 1) e1 = it (mb D M) j e1 * (D % M) % M := by rw [mb_less]; rfl
                    have hH4 := HO4.out (j + 1) (by omega)
                    obtain ⟨x, hx⟩ : ∃ x, x = it (mb D M) j e1 := ⟨_, rfl⟩
                    rw [← hx] at hit hst ⊢
                    obtain ⟨c, hc⟩ : ∃ c, c = D % M := ⟨_, rfl⟩
                    rw [← hc] at hst
                    have hcM : c ≤ 16 := by rw [hc]; exact Nat.le_trans (Nat.mod_le _ _) hD
                    have hc1 : Int.tmod (D : Int) (M : Int) = (c : Int) := by rw [Int.tmod_eq_emod_of_nonneg (by omega), hc]; rfl
                    have hc2 : (D : Int) % (M : Int) = (c : Int) := by rw [hc]; rfl
                    obtain ⟨P, hP⟩ : ∃ P, P = x * c := ⟨_, rfl⟩
                    have hPb : P ≤ 32000 := by rw [hP]; exact Nat.mul_le_mul (show x ≤ 2000 by omega) hcM
                    have hP2 : (x : Int) * (c : Int) = (P : Int) := by rw [hP]; simp
                    rw [← hP] at hst
                    obtain ⟨y, hy⟩ : ∃ y, y = it (mb D M) (j + 1) e1 := ⟨_, rfl⟩
                    have HY := Lib.hid hy
                    rw [← hy] at hst hH4
                    have hyM : y < M := by rw [hst]; exact Nat.mod_lt _ hM
                    have hp1 : Int.tmod (P : Int) (M : Int) = (y : Int) := by rw [Int.tmod_eq_emod_of_nonneg (by omega), hst]; rfl
                    have hp2 : (P : Int) % (M : Int) = (y : Int) := by rw [hst]; rfl
                    by_cases hjO : j + 1 = O
                    · have hye : y = e1 := by rw [HY.out, hjO]; exact HO3.out
                      have hq1 : ((y : Int) == (e1 : Int)) = true := by rw [hye]; simp
                      have hq2 : ((j : Int) + 1 == (O : Int)) = true := by rw [← hjO]; simp
                      clear hx hc hP hy hst hH4 hye
                      go_wp2
                      go_roundw
                      case rel => exact ⟨j + 1, by omega, by go_num, by rw [← HY.out], KB.out⟩
                      case measure => simp [intOf]; omega
                    · have hye : y ≠ e1 := fun e => hH4 (by omega) e
                      have hq1 : ((y : Int) == (e1 : Int)) = false := beq_no (by omega)
                      have hq2 : ((j : Int) + 1 == (O : Int)) = false := beq_no (by omega)
                      clear hx hc hP hy hst hH4 hye
                      go_wp2
                      go_roundw
                      case rel => exact ⟨j + 1, by omega, by go_num, by rw [← HY.out], KB.out⟩
                      case measure => simp [intOf]; omega
                  · obtain rfl : j = O := by omega
                    have hji : ¬ (j : Int) + 1 ≤ (j : Int) := by omega
                    have BE12 := Lib.hid (BE11.out.trans (KB.out.mono BE11.out.size))
                    obtain ⟨w12, hwr⟩ : ∃ w12, w12 = wr := ⟨_, rfl⟩
                    subst hwr
                    clear KB
                    go_wp2_with fail
                    refine (draw_FractionDigits _ xs1 _ (HS1.out.keep BE12.out) HL1.out).mono ?_
                    rintro e y2 ⟨p, q, c, k, rfl, hb⟩
                    have BE13 := Lib.hid (BE12.out.trans (hb.mono BE12.out.size))
                    clear hb
                    have HV1 := Lib.hid (fun w => impl_FractionDigits p q c k w)
                    have HV2 := Lib.hid (fun w => spec_FractionDigits p q c k w)
                    have HVL := Lib.hid (LF_FractionDigits_len p q c k)
                    obtain ⟨ok, hok⟩ : ∃ ok, ok = OK_FractionDigits p q c k := ⟨_, rfl⟩
                    obtain ⟨LL, hLL⟩ : ∃ LL, LL = LF_FractionDigits p q c k := ⟨_, rfl⟩
                    rw [← hok, ← hLL] at HV1 HV2
                    rw [← hLL] at HVL
                    clear hok hLL
                    go_wp2_with fail
                    refine (HV1.out _).mono ?_
                    rintro e w14 ⟨uF, rfl, hr, hb⟩
                    have BE14 := Lib.hid (BE13.out.trans (hb.mono BE13.out.size))
                    have R8 := Lib.hid hr
                    clear hr hb
                    go_wp2_with fail
                    refine (HV2.out _).mono ?_
                    rintro e w15 ⟨uM, rfl, hr, hb⟩
                    have R9 := Lib.hid (R8.out.keep hb)
                    have BE15 := Lib.hid (BE14.out.trans (hb.mono BE14.out.size))
                    have R10 := Lib.hid hr
                    clear hr hb
                    cases ok
                    all_goals
                      go_wp2_with fail
                      refine (qSame_any _ _ LL _ R9.out.sl R10.out.sl HVL.out).mono ?_
                      rintro e w16 ⟨rfl, hb⟩
                      have R11 := Lib.hid (R9.out.keep hb)
                      have R12 := Lib.hid (R10.out.keep hb)
                      have BE16 := Lib.hid (BE15.out.trans (hb.mono BE15.out.size))
                      clear hb
                      go_wp2
                      go_ret
                      exact ⟨rfl, BE16.out⟩
              · rw [show ROrd m d = none from if_neg hR] at HU1 HU2
                simp only [Option.getD_none, Option.isSome_none] at HU1 HU2
                clear hR
                go_wp2_with fail
                refine (HU1.out _).mono ?_
                rintro e w10 ⟨rfl, hb⟩
                have BE10 := Lib.hid (BE9.out.trans (hb.mono BE9.out.size))
                clear hb
                go_wp2_with fail
                refine (HU2.out _).mono ?_
                rintro e w11 ⟨rfl, hb⟩
                have BE11 := Lib.hid (BE10.out.trans (hb.mono BE10.out.size))
                clear hb
                go_wp2_with fail
                refine (draw_FractionDigits _ xs1 _ (HS1.out.keep BE11.out) HL1.out).mono ?_
                rintro e y2 ⟨p, q, c, k, rfl, hb⟩
                have BE12 := Lib.hid (BE11.out.trans (hb.mono BE11.out.size))
                clear hb
                have HV1 := Lib.hid (fun w => impl_FractionDigits p q c k w)
                have HV2 := Lib.hid (fun w => spec_FractionDigits p q c k w)
                have HVL := Lib.hid (LF_FractionDigits_len p q c k)
                obtain ⟨ok, hok⟩ : ∃ ok, ok = OK_FractionDigits p q c k := ⟨_, rfl⟩
                obtain ⟨LL, hLL⟩ : ∃ LL, LL = LF_FractionDigits p q c k := ⟨_, rfl⟩
                rw [← hok, ← hLL] at HV1 HV2
                rw [← hLL] at HVL
                clear hok hLL
                go_wp2_with fail
                refine (HV1.out _).mono ?_
                rintro e w13 ⟨uF, rfl, hr, hb⟩
                have BE13 := Lib.hid (BE12.out.trans (hb.mono BE12.out.size))
                have R8 := Lib.hid hr
                clear hr hb
                go_wp2_with fail
                refine (HV2.out _).mono ?_
                rintro e w14 ⟨uM, rfl, hr, hb⟩
                have R9 := Lib.hid (R8.out.keep hb)
                have BE14 := Lib.hid (BE13.out.trans (hb.mono BE13.out.size))
                have R10 := Lib.hid hr
                clear hr hb
                cases ok
                all_goals
                  go_wp2_with fail
                  refine (qSame_any _ _ LL _ R9.out.sl R10.out.sl HVL.out).mono ?_
                  rintro e w15 ⟨rfl, hb⟩
                  have R11 := Lib.hid (R9.out.keep hb)
                  have R12 := Lib.hid (R10.out.keep hb)
                  have BE15 := Lib.hid (BE14.out.trans (hb.mono BE14.out.size))
                  clear hb
                  go_wp2
                  go_ret
                  exact ⟨rfl, BE15.out⟩
      · skip
        go_wp2_with fail
        refine (HOI.out _).mono ?_
        rintro e w7 ⟨rfl, hb⟩
        have R6 := Lib.hid (R4.out.keep hb)
        have BE7 := Lib.hid (BE6.out.trans (hb.mono BE6.out.size))
        clear hb
        go_wp2_with fail
        refine (HG1.out _).mono ?_
        rintro e w8 ⟨rfl, hb⟩
        have R7 := Lib.hid (R6.out.keep hb)
        have BE8 := Lib.hid (BE7.out.trans (hb.mono BE7.out.size))
        clear hb
        as_aux_lemma =>
          by_cases h2 : p0 + 2 * p1 ≤ 200
          · have h2i : (p0 : Int) + 2 * (p1 : Int) ≤ 200 := by omega
            have HFD := Lib.hid (fun w => impl_FractionDigits (A : Int) (N : Int) (B : Int) ((p0 : Int) + 2 * (p1 : Int)) w)
            have hfr : Frc (A : Int) (N : Int) (B : Int) ∧ 0 ≤ (p0 : Int) + 2 * (p1 : Int) ∧ (p0 : Int) + 2 * (p1 : Int) ≤ 200 := ⟨HFR.out, by omega, h2i⟩
            have eO : OK_FractionDigits (A : Int) (N : Int) (B : Int) ((p0 : Int) + 2 * (p1 : Int)) = true := decide_eq_true hfr
            have eL : LF_FractionDigits (A : Int) (N : Int) (B : Int) ((p0 : Int) + 2 * (p1 : Int)) = fdg A N B (p0 + 2 * p1) := by unfold LF_FractionDigits; rw [if_pos hfr, show ((p0 : Int) + 2 * (p1 : Int)).toNat = p0 + 2 * p1 by omega]; rfl
            rw [eO, eL] at HFD
            have HDG := Lib.hid (fun i (hi : i < p0 + 2 * p1) => fdg_get (a := A) (n := N) (b := B) hi)
            have hdl := fdg_len A N B (p0 + 2 * p1)
            obtain ⟨DD, hDD⟩ : ∃ DD, DD = fdg A N B (p0 + 2 * p1) := ⟨_, rfl⟩
            rw [← hDD] at HFD HDG hdl
            clear hDD eO eL hfr
            have HOK := Lib.hid (show OK_RepetendOf (A : Int) (N : Int) (B : Int) = true from decide_eq_true ⟨HFR.out, by show pA A N B ≤ 400; rw [← HP1.out]; omega⟩)
            have HLR := Lib.hid (show LF_RepetendOf (A : Int) (N : Int) (B : Int) = rpt A N B by unfold LF_RepetendOf; rw [if_pos ⟨HFR.out, by show pA A N B ≤ 400; rw [← HP1.out]; omega⟩]; rfl)
            have hkr := HKR.out.trans HOK.out
            clear hkr
            have RZ := R7.out
            rw [HLR.out] at RZ
            have RZH := Lib.hid RZ
            clear RZ
            go_wp2_with fail
            refine (HFD.out _).mono ?_
            rintro e w9 ⟨uD, rfl, hr, hb⟩
            have R8 := Lib.hid (RZH.out.keep hb)
            have BE9 := Lib.hid (BE8.out.trans (hb.mono BE8.out.size))
            have R9 := Lib.hid hr
            clear hr hb
            have hrl := rpt_len A N B
            rw [← HP1.out] at hrl
            obtain ⟨gR, oR, cR, hRe, hgR, hzR⟩ := sl_lies R8.out.sl (by rw [hrl]; omega)
            obtain ⟨gD, oD, cD, hDe, hgD, hzD⟩ := sl_lies R9.out.sl (by rw [hdl]; omega)
            subst hRe
            subst hDe
            rw [hrl, hdl]
            have HZR := Lib.hid (fun j (hj : j < p1) => (hzR j (by rw [hrl]; exact hj)).trans (by rw [rpt_get (by rw [← HP1.out]; exact hj), ← HP0.out]))
            have HZD := Lib.hid (fun j (hj : j < p0 + 2 * p1) => (hzD j (by rw [hdl]; exact hj)).trans (by rw [HDG.out j hj]))
            clear hzR hzD hrl hdl
            obtain ⟨KD, hKD⟩ : ∃ KD, KD = p0 + 2 * p1 := ⟨_, rfl⟩
            have HKD := Lib.hid hKD
            rw [← hKD]
            have hkd : (KD : Int) = (p0 : Int) + 2 * (p1 : Int) := by omega
            have HKI := Lib.hid hkd
            have hKb : KD ≤ 200 := by omega
            clear hKD hkd
            go_wp2
            go_loopw [22] (fun i wr => ∃ k : Nat, k ≤ p1 ∧ i = .int .i64 ((p0 : Int) + (k : Int)) ∧ Below w9.heap.size w9 wr) (fun i _ => p0 + p1 - (intOf i).toNat)
            case atStart => exact ⟨0, Nat.zero_le _, by first | rfl | (congr 1; omega), Below.refl _ _⟩
            case round =>
              obtain ⟨r, hr, rfl, hb⟩ := hrel
              have KB := Lib.hid hb
              clear hb
              obtain ⟨k, hk⟩ : ∃ k, k = p0 + r := ⟨_, rfl⟩
              have hki : (p0 : Int) + (r : Int) = (k : Int) := by omega
              rw [hki]
              by_cases hlt : r < p1
              · have hkl : (k : Int) < (p0 : Int) + (p1 : Int) := by omega
                obtain ⟨t, ht⟩ : ∃ t, t = k + p1 := ⟨_, rfl⟩
                have hti : (k : Int) + (p1 : Int) = (t : Int) := by omega
                have hri : (k : Int) - (p0 : Int) = (r : Int) := by omega
                have hKK := HKI.out
                have htK : (t : Int) < (KD : Int) := by omega
                have hkK : (k : Int) < (KD : Int) := by omega
                have hrp : (r : Int) < (p1 : Int) := by omega
                have htK2 : t < KD := by omega
                have hkK2 : k < KD := by omega
                have zk := (KB.out.cell (p := ⟨gD, oD + k, none⟩) hgD).trans (HZD.out k (by rw [← HKD.out]; exact hkK2))
                have zt := (KB.out.cell (p := ⟨gD, oD + t, none⟩) hgD).trans (HZD.out t (by rw [← HKD.out]; exact htK2))
                have zr := (KB.out.cell (p := ⟨gR, oR + r, none⟩) hgR).trans (HZR.out r hlt)
                rw [ht, HP1.out, dig_again HFA.out.1 HFA.out.2.1 HFA.out.2.2 (by rw [← HP0.out]; omega), ← HP1.out, ← ht] at zt
                rw [← hk] at zr
                obtain ⟨dd, hdd⟩ : ∃ dd, dd = it (mb B N) k A * B / N := ⟨_, rfl⟩
                rw [← hdd] at zk zt zr
                clear hdd ht hKK
                have hk1 : (k : Int) + 1 = (p0 : Int) + ((r + 1 : Nat) : Int) := by omega
                have HK1 := Lib.hid hk1
                clear hk1
                clear hk
                go_wp2
                go_quiet (fail)
                go_wp2
                go_roundw
                case rel => exact ⟨r + 1, by omega, by first | rfl | (rw [HK1.out]) | (rw [← HK1.out]; go_num), below_drewP KB.out _⟩
                case measure => simp [intOf]; omega
              · have hkl : ¬ (k : Int) < (p0 : Int) + (p1 : Int) := by omega
                clear hki hk
                have HZW := Lib.hid (fun j (hj : j < KD) => (KB.out.cell (p := ⟨gD, oD + j, none⟩) hgD).trans (HZD.out j (by rw [← HKD.out]; exact hj)))
                have hgW := Nat.lt_of_lt_of_le hgD KB.out.size
                have BE10 := Lib.hid (BE9.out.trans (KB.out.mono BE9.out.size))
                obtain ⟨w10, hwr⟩ : ∃ w10, w10 = wr := ⟨_, rfl⟩
                subst hwr
                clear KB
                go_wp2
                go_loopw [23, 207] (fun l i wr => ∃ j : Nat, j ≤ KD ∧ l = .int .i64 ((it (mb B N) j A : Nat) : Int) ∧ i = .int .i64 (j : Int) ∧ Below w10.heap.size w10 wr) (fun _ i _ => KD - (intOf i).toNat)
                case atStart => exact ⟨0, Nat.zero_le _, rfl, rfl, Below.refl _ _⟩
                case round =>
                  obtain ⟨j, hj, rfl, rfl, hb⟩ := hrel
                  have KB := Lib.hid hb
                  clear hb
                  by_cases hlt : j < KD
                  · have hji : (j : Int) < (KD : Int) := by omega
                    have zj := (KB.out.cell (p := ⟨gD, oD + j, none⟩) hgW).trans (HZW.out j hlt)
                    have hxN := it_lt (mb_into (b := B) HFA.out.2.1) j HFA.out.2.2
                    have hdl := dig_lt (b := B) HFA.out.2.1 HFA.out.1 hxN
                    have hst : it (mb B N) (j + 1) A = it (mb B N) j A * B % N := rfl
                    obtain ⟨x, hx⟩ : ∃ x, x = it (mb B N) j A := ⟨_, rfl⟩
                    rw [← hx] at hxN hdl hst zj ⊢
                    obtain ⟨P, hP⟩ : ∃ P, P = x * B := ⟨_, rfl⟩
                    have hPb : P ≤ 32000 := by rw [hP]; exact Nat.mul_le_mul (show x ≤ 2000 by omega) hB16
                    have hP2 : (x : Int) * (B : Int) = (P : Int) := by rw [hP]; simp
                    rw [← hP] at hdl hst zj
                    obtain ⟨dd, hdd⟩ : ∃ dd, dd = P / N := ⟨_, rfl⟩
                    rw [← hdd] at hdl zj
                    have hq1 : Int.tdiv (P : Int) (N : Int) = (dd : Int) := by rw [Int.tdiv_eq_ediv_of_nonneg (by omega), hdd]; rfl
                    have hq2 : (P : Int) / (N : Int) = (dd : Int) := by rw [hdd]; rfl
                    obtain ⟨y, hy⟩ : ∃ y, y = it (mb B N) (j + 1) A := ⟨_, rfl⟩
                    have HY := Lib.hid hy
                    rw [← hy] at hst
                    have hr1 : Int.tmod (P : Int) (N : Int) = (y : Int) := by rw [Int.tmod_eq_emod_of_nonneg (by omega), hst]; rfl
                    have hr2 : (P : Int) % (N : Int) = (y : Int) := by rw [hst]; rfl
                    have hN0 : (N : Int) ≠ 0 := by omega
                    have hN1 : ((N : Int) == 0) = false := beq_no hN0
                    have hdb : ¬ (B : Int) ≤ (dd : Int) := by omega
                    have hd0 : ¬ (dd : Int) < 0 := by omega
                    have hdb2 : (dd : Int) < (B : Int) := by omega
                    clear hx hP hdd hy hst
                    go_wp2
                    go_roundw
                    case rel => exact ⟨j + 1, by omega, by rw [← HY.out], by go_num, KB.out⟩
                    case measure => simp [intOf]; omega
                  · obtain rfl : j = KD := by omega
                    have BE11 := Lib.hid (BE10.out.trans (KB.out.mono BE10.out.size))
                    obtain ⟨w11, hwr⟩ : ∃ w11, w11 = wr := ⟨_, rfl⟩
                    subst hwr
                    clear KB
                    as_aux_lemma =>
                      go_wp2_with fail
                      refine (draw_OrderOf _ xs1 _ (HS1.out.keep BE11.out) HL1.out).mono ?_
                      rintro e y1 ⟨m, d, rfl, hb⟩
                      have BE12 := Lib.hid (BE11.out.trans (hb.mono BE11.out.size))
                      clear hb
                      have HU1 := Lib.hid (fun w => impl_OrderOf m d w)
                      have HU2 := Lib.hid (fun w => spec_OrderOf m d w)
                      simp only [optRes] at HU1 HU2
                      by_cases hR : Bas d ∧ Den m ∧ Nat.gcd d.toNat m.toNat = 1
                      · skip
                        obtain ⟨⟨hb1, hb2⟩, ⟨hd1, hd2⟩, hgd⟩ := hR
                        obtain ⟨M, rfl⟩ : ∃ M : Nat, m = (M : Int) := ⟨m.toNat, by omega⟩
                        obtain ⟨D, rfl⟩ : ∃ D : Nat, d = (D : Int) := ⟨d.toNat, by omega⟩
                        have hM : 0 < M := by omega
                        have hM2 : M ≤ 2000 := by omega
                        have hD : D ≤ 16 := by omega
                        have hgd2 : Nat.gcd D M = 1 := by simpa using hgd
                        have eO : ROrd (M : Int) (D : Int) = some ((ordN D M : Nat) : Int) := by rw [ord_at (by omega) hD hM hM2, if_pos hgd2]
                        rw [eO] at HU1 HU2
                        simp only [Option.getD_some, Option.isSome_some] at HU1 HU2
                        obtain ⟨o1, o2, o3, o4⟩ := ord_spec hgd2 hM
                        have HO3 := Lib.hid o3
                        have HO4 := Lib.hid o4
                        obtain ⟨O, hO⟩ : ∃ O, O = ordN D M := ⟨_, rfl⟩
                        rw [← hO] at HU1 HU2 o1 o2 HO3 HO4
                        clear hO eO o3 o4 hgd hgd2
                        go_wp2_with fail
                        refine (HU1.out _).mono ?_
                        rintro e w13 ⟨rfl, hb⟩
                        have BE13 := Lib.hid (BE12.out.trans (hb.mono BE12.out.size))
                        clear hb
                        go_wp2_with fail
                        refine (HU2.out _).mono ?_
                        rintro e w14 ⟨rfl, hb⟩
                        have BE14 := Lib.hid (BE13.out.trans (hb.mono BE13.out.size))
                        clear hb
                        obtain ⟨e1, he1⟩ : ∃ e1, e1 = 1 % M := ⟨_, rfl⟩
                        have HE1 := Lib.hid he1
                        have he1M : e1 < M := by rw [he1]; exact Nat.mod_lt _ hM
                        rw [← he1] at HO3 HO4
                        have ht1 : Int.tmod 1 (M : Int) = (e1 : Int) := by rw [Int.tmod_eq_emod_of_nonneg (by omega), he1]; rfl
                        have ht2 : (1 : Int) % (M : Int) = (e1 : Int) := by rw [he1]; rfl
                        have hM0 : (M : Int) ≠ 0 := by omega
                        have hM1 : ((M : Int) == 0) = false := beq_no hM0
                        clear he1
                        go_wp2
                        go_loopw [32, 33] (fun p i wr => ∃ j : Nat, j ≤ O ∧ i = .int .i64 ((j : Int) + 1) ∧ p = .int .i64 ((it (mb D M) j e1 : Nat) : Int) ∧ Below w14.heap.size w14 wr) (fun _ i _ => (O : Int).toNat + 1 - (intOf i).toNat)
                        case atStart => exact ⟨0, Nat.zero_le _, rfl, rfl, Below.refl _ _⟩
                        case round =>
                          obtain ⟨j, hj, rfl, rfl, hb⟩ := hrel
                          have KB := Lib.hid hb
                          clear hb
                          by_cases hlt : j < O
                          · have hji : (j : Int) + 1 ≤ (O : Int) := by omega
                            have hit := it_lt (mb_into (b := D) hM) j he1M
                            have hst : it (mb D M) (j + 1) e1 = it (mb D M) j e1 * (D % M) % M := by rw [mb_less]; rfl
                            have hH4 := HO4.out (j + 1) (by omega)
                            obtain ⟨x, hx⟩ : ∃ x, x = it (mb D M) j e1 := ⟨_, rfl⟩
                            rw [← hx] at hit hst ⊢
                            obtain ⟨c, hc⟩ : ∃ c, c = D % M := ⟨_, rfl⟩
                            rw [← hc] at hst
                            have hcM : c ≤ 16 := by rw [hc]; exact Nat.le_trans (Nat.mod_le _ _) hD
                            have hc1 : Int.tmod (D : Int) (M : Int) = (c : Int) := by rw [Int.tmod_eq_emod_of_nonneg (by omega), hc]; rfl
                            have hc2 : (D : Int) % (M : Int) = (c : Int) := by rw [hc]; rfl
                            obtain ⟨P, hP⟩ : ∃ P, P = x * c := ⟨_, rfl⟩
                            have hPb : P ≤ 32000 := by rw [hP]; exact Nat.mul_le_mul (show x ≤ 2000 by omega) hcM
                            have hP2 : (x : Int) * (c : Int) = (P : Int) := by rw [hP]; simp
                            rw [← hP] at hst
                            obtain ⟨y, hy⟩ : ∃ y, y = it (mb D M) (j + 1) e1 := ⟨_, rfl⟩
                            have HY := Lib.hid hy
                            rw [← hy] at hst hH4
                            have hyM : y < M := by rw [hst]; exact Nat.mod_lt _ hM
                            have hp1 : Int.tmod (P : Int) (M : Int) = (y : Int) := by rw [Int.tmod_eq_emod_of_nonneg (by omega), hst]; rfl
                            have hp2 : (P : Int) % (M : Int) = (y : Int) := by rw [hst]; rfl
                            by_cases hjO : j + 1 = O
                            · have hye : y = e1 := by rw [HY.out, hjO]; exact HO3.out
                              have hq1 : ((y : Int) == (e1 : Int)) = true := by rw [hye]; simp
                              have hq2 : ((j : Int) + 1 == (O : Int)) = true := by rw [← hjO]; simp
                              clear hx hc hP hy hst hH4 hye
                              go_wp2
                              go_roundw
                              case rel => exact ⟨j + 1, by omega, by go_num, by rw [← HY.out], KB.out⟩
                              case measure => simp [intOf]; omega
                            · have hye : y ≠ e1 := fun e => hH4 (by omega) e
                              have hq1 : ((y : Int) == (e1 : Int)) = false := beq_no (by omega)
                              have hq2 : ((j : Int) + 1 == (O : Int)) = false := beq_no (by omega)
                              clear hx hc hP hy hst hH4 hye
                              go_wp2
                              go_roundw
                              case rel => exact ⟨j + 1, by omega, by go_num, by rw [← HY.out], KB.out⟩
                              case measure => simp [intOf]; omega
                          · obtain rfl : j = O := by omega
                            have hji : ¬ (j : Int) + 1 ≤ (j : Int) := by omega
                            have BE15 := Lib.hid (BE14.out.trans (KB.out.mono BE14.out.size))
                            obtain ⟨w15, hwr⟩ : ∃ w15, w15 = wr := ⟨_, rfl⟩
                            subst hwr
                            clear KB
                            go_wp2_with fail
                            refine (draw_FractionDigits _ xs1 _ (HS1.out.keep BE15.out) HL1.out).mono ?_
                            rintro e y2 ⟨p, q, c, k, rfl, hb⟩
                            have BE16 := Lib.hid (BE15.out.trans (hb.mono BE15.out.size))
                            clear hb
                            have HV1 := Lib.hid (fun w => impl_FractionDigits p q c k w)
                            have HV2 := Lib.hid (fun w => spec_FractionDigits p q c k w)
                            have HVL := Lib.hid (LF_FractionDigits_len p q c k)
                            obtain ⟨ok, hok⟩ : ∃ ok, ok = OK_FractionDigits p q c k := ⟨_, rfl⟩
                            obtain ⟨LL, hLL⟩ : ∃ LL, LL = LF_FractionDigits p q c k := ⟨_, rfl⟩
                            rw [← hok, ← hLL] at HV1 HV2
                            rw [← hLL] at HVL
                            clear hok hLL
                            go_wp2_with fail
                            refine (HV1.out _).mono ?_
                            rintro e w17 ⟨uF, rfl, hr, hb⟩
                            have BE17 := Lib.hid (BE16.out.trans (hb.mono BE16.out.size))
                            have R10 := Lib.hid hr
                            clear hr hb
                            go_wp2_with fail
                            refine (HV2.out _).mono ?_
                            rintro e w18 ⟨uM, rfl, hr, hb⟩
                            have R11 := Lib.hid (R10.out.keep hb)
                            have BE18 := Lib.hid (BE17.out.trans (hb.mono BE17.out.size))
                            have R12 := Lib.hid hr
                            clear hr hb
                            cases ok
                            all_goals
                              go_wp2_with fail
                              refine (qSame_any _ _ LL _ R11.out.sl R12.out.sl HVL.out).mono ?_
                              rintro e w19 ⟨rfl, hb⟩
                              have R13 := Lib.hid (R11.out.keep hb)
                              have R14 := Lib.hid (R12.out.keep hb)
                              have BE19 := Lib.hid (BE18.out.trans (hb.mono BE18.out.size))
                              clear hb
                              go_wp2
                              go_ret
                              exact ⟨rfl, BE19.out⟩
                      · rw [show ROrd m d = none from if_neg hR] at HU1 HU2
                        simp only [Option.getD_none, Option.isSome_none] at HU1 HU2
                        clear hR
                        go_wp2_with fail
                        refine (HU1.out _).mono ?_
                        rintro e w13 ⟨rfl, hb⟩
                        have BE13 := Lib.hid (BE12.out.trans (hb.mono BE12.out.size))
                        clear hb
                        go_wp2_with fail
                        refine (HU2.out _).mono ?_
                        rintro e w14 ⟨rfl, hb⟩
                        have BE14 := Lib.hid (BE13.out.trans (hb.mono BE13.out.size))
                        clear hb
                        go_wp2_with fail
                        refine (draw_FractionDigits _ xs1 _ (HS1.out.keep BE14.out) HL1.out).mono ?_
                        rintro e y2 ⟨p, q, c, k, rfl, hb⟩
                        have BE15 := Lib.hid (BE14.out.trans (hb.mono BE14.out.size))
                        clear hb
                        have HV1 := Lib.hid (fun w => impl_FractionDigits p q c k w)
                        have HV2 := Lib.hid (fun w => spec_FractionDigits p q c k w)
                        have HVL := Lib.hid (LF_FractionDigits_len p q c k)
                        obtain ⟨ok, hok⟩ : ∃ ok, ok = OK_FractionDigits p q c k := ⟨_, rfl⟩
                        obtain ⟨LL, hLL⟩ : ∃ LL, LL = LF_FractionDigits p q c k := ⟨_, rfl⟩
                        rw [← hok, ← hLL] at HV1 HV2
                        rw [← hLL] at HVL
                        clear hok hLL
                        go_wp2_with fail
                        refine (HV1.out _).mono ?_
                        rintro e w16 ⟨uF, rfl, hr, hb⟩
                        have BE16 := Lib.hid (BE15.out.trans (hb.mono BE15.out.size))
                        have R10 := Lib.hid hr
                        clear hr hb
                        go_wp2_with fail
                        refine (HV2.out _).mono ?_
                        rintro e w17 ⟨uM, rfl, hr, hb⟩
                        have R11 := Lib.hid (R10.out.keep hb)
                        have BE17 := Lib.hid (BE16.out.trans (hb.mono BE16.out.size))
                        have R12 := Lib.hid hr
                        clear hr hb
                        cases ok
                        all_goals
                          go_wp2_with fail
                          refine (qSame_any _ _ LL _ R11.out.sl R12.out.sl HVL.out).mono ?_
                          rintro e w18 ⟨rfl, hb⟩
                          have R13 := Lib.hid (R11.out.keep hb)
                          have R14 := Lib.hid (R12.out.keep hb)
                          have BE18 := Lib.hid (BE17.out.trans (hb.mono BE17.out.size))
                          clear hb
                          go_wp2
                          go_ret
                          exact ⟨rfl, BE18.out⟩
          · have h2i : ¬ (p0 : Int) + 2 * (p1 : Int) ≤ 200 := by omega
            as_aux_lemma =>
              go_wp2_with fail
              refine (draw_OrderOf _ xs1 _ (HS1.out.keep BE8.out) HL1.out).mono ?_
              rintro e y1 ⟨m, d, rfl, hb⟩
              have BE9 := Lib.hid (BE8.out.trans (hb.mono BE8.out.size))
              clear hb
              have HU1 := Lib.hid (fun w => impl_OrderOf m d w)
              have HU2 := Lib.hid (fun w => spec_OrderOf m d w)
              simp only [optRes] at HU1 HU2
              by_cases hR : Bas d ∧ Den m ∧ Nat.gcd d.toNat m.toNat = 1
              · skip
                obtain ⟨⟨hb1, hb2⟩, ⟨hd1, hd2⟩, hgd⟩ := hR
                obtain ⟨M, rfl⟩ : ∃ M : Nat, m = (M : Int) := ⟨m.toNat, by omega⟩
                obtain ⟨D, rfl⟩ : ∃ D : Nat, d = (D : Int) := ⟨d.toNat, by omega⟩
                have hM : 0 < M := by omega
                have hM2 : M ≤ 2000 := by omega
                have hD : D ≤ 16 := by omega
                have hgd2 : Nat.gcd D M = 1 := by simpa using hgd
                have eO : ROrd (M : Int) (D : Int) = some ((ordN D M : Nat) : Int) := by rw [ord_at (by omega) hD hM hM2, if_pos hgd2]
                rw [eO] at HU1 HU2
                simp only [Option.getD_some, Option.isSome_some] at HU1 HU2
                obtain ⟨o1, o2, o3, o4⟩ := ord_spec hgd2 hM
                have HO3 := Lib.hid o3
                have HO4 := Lib.hid o4
                obtain ⟨O, hO⟩ : ∃ O, O = ordN D M := ⟨_, rfl⟩
                rw [← hO] at HU1 HU2 o1 o2 HO3 HO4
                clear hO eO o3 o4 hgd hgd2
                go_wp2_with fail
                refine (HU1.out _).mono ?_
                rintro e w10 ⟨rfl, hb⟩
                have BE10 := Lib.hid (BE9.out.trans (hb.mono BE9.out.size))
                clear hb
                go_wp2_with fail
                refine (HU2.out _).mono ?_
                rintro e w11 ⟨rfl, hb⟩
                have BE11 := Lib.hid (BE10.out.trans (hb.mono BE10.out.size))
                clear hb
                obtain ⟨e1, he1⟩ : ∃ e1, e1 = 1 % M := ⟨_, rfl⟩
                have HE1 := Lib.hid he1
                have he1M : e1 < M := by rw [he1]; exact Nat.mod_lt _ hM
                rw [← he1] at HO3 HO4
                have ht1 : Int.tmod 1 (M : Int) = (e1 : Int) := by rw [Int.tmod_eq_emod_of_nonneg (by omega), he1]; rfl
                have ht2 : (1 : Int) % (M : Int) = (e1 : Int) := by rw [he1]; rfl
                have hM0 : (M : Int) ≠ 0 := by omega
                have hM1 : ((M : Int) == 0) = false := beq_no hM0
                clear he1
                go_wp2
                go_loopw [32, 33] (fun p i wr => ∃ j : Nat, j ≤ O ∧ i = .int .i64 ((j : Int) + 1) ∧ p = .int .i64 ((it (mb D M) j e1 : Nat) : Int) ∧ Below w11.heap.size w11 wr) (fun _ i _ => (O : Int).toNat + 1 - (intOf i).toNat)
                case atStart => exact ⟨0, Nat.zero_le _, rfl, rfl, Below.refl _ _⟩
                case round =>
                  obtain ⟨j, hj, rfl, rfl, hb⟩ := hrel
                  have KB := Lib.hid hb
                  clear hb
                  by_cases hlt : j < O
                  · have hji : (j : Int) + 1 ≤ (O : Int) := by omega
                    have hit := it_lt (mb_into (b := D) hM) j he1M
                    have hst : it (mb D M) (j + 1) e1 = it (mb D M) j e1 * (D % M) % M := by rw [mb_less]; rfl
                    have hH4 := HO4.out (j + 1) (by omega)
                    obtain ⟨x, hx⟩ : ∃ x, x = it (mb D M) j e1 := ⟨_, rfl⟩
                    rw [← hx] at hit hst ⊢
                    obtain ⟨c, hc⟩ : ∃ c, c = D % M := ⟨_, rfl⟩
                    rw [← hc] at hst
                    have hcM : c ≤ 16 := by rw [hc]; exact Nat.le_trans (Nat.mod_le _ _) hD
                    have hc1 : Int.tmod (D : Int) (M : Int) = (c : Int) := by rw [Int.tmod_eq_emod_of_nonneg (by omega), hc]; rfl
                    have hc2 : (D : Int) % (M : Int) = (c : Int) := by rw [hc]; rfl
                    obtain ⟨P, hP⟩ : ∃ P, P = x * c := ⟨_, rfl⟩
                    have hPb : P ≤ 32000 := by rw [hP]; exact Nat.mul_le_mul (show x ≤ 2000 by omega) hcM
                    have hP2 : (x : Int) * (c : Int) = (P : Int) := by rw [hP]; simp
                    rw [← hP] at hst
                    obtain ⟨y, hy⟩ : ∃ y, y = it (mb D M) (j + 1) e1 := ⟨_, rfl⟩
                    have HY := Lib.hid hy
                    rw [← hy] at hst hH4
                    have hyM : y < M := by rw [hst]; exact Nat.mod_lt _ hM
                    have hp1 : Int.tmod (P : Int) (M : Int) = (y : Int) := by rw [Int.tmod_eq_emod_of_nonneg (by omega), hst]; rfl
                    have hp2 : (P : Int) % (M : Int) = (y : Int) := by rw [hst]; rfl
                    by_cases hjO : j + 1 = O
                    · have hye : y = e1 := by rw [HY.out, hjO]; exact HO3.out
                      have hq1 : ((y : Int) == (e1 : Int)) = true := by rw [hye]; simp
                      have hq2 : ((j : Int) + 1 == (O : Int)) = true := by rw [← hjO]; simp
                      clear hx hc hP hy hst hH4 hye
                      go_wp2
                      go_roundw
                      case rel => exact ⟨j + 1, by omega, by go_num, by rw [← HY.out], KB.out⟩
                      case measure => simp [intOf]; omega
                    · have hye : y ≠ e1 := fun e => hH4 (by omega) e
                      have hq1 : ((y : Int) == (e1 : Int)) = false := beq_no (by omega)
                      have hq2 : ((j : Int) + 1 == (O : Int)) = false := beq_no (by omega)
                      clear hx hc hP hy hst hH4 hye
                      go_wp2
                      go_roundw
                      case rel => exact ⟨j + 1, by omega, by go_num, by rw [← HY.out], KB.out⟩
                      case measure => simp [intOf]; omega
                  · obtain rfl : j = O := by omega
                    have hji : ¬ (j : Int) + 1 ≤ (j : Int) := by omega
                    have BE12 := Lib.hid (BE11.out.trans (KB.out.mono BE11.out.size))
                    obtain ⟨w12, hwr⟩ : ∃ w12, w12 = wr := ⟨_, rfl⟩
                    subst hwr
                    clear KB
                    go_wp2_with fail
                    refine (draw_FractionDigits _ xs1 _ (HS1.out.keep BE12.out) HL1.out).mono ?_
                    rintro e y2 ⟨p, q, c, k, rfl, hb⟩
                    have BE13 := Lib.hid (BE12.out.trans (hb.mono BE12.out.size))
                    clear hb
                    have HV1 := Lib.hid (fun w => impl_FractionDigits p q c k w)
                    have HV2 := Lib.hid (fun w => spec_FractionDigits p q c k w)
                    have HVL := Lib.hid (LF_FractionDigits_len p q c k)
                    obtain ⟨ok, hok⟩ : ∃ ok, ok = OK_FractionDigits p q c k := ⟨_, rfl⟩
                    obtain ⟨LL, hLL⟩ : ∃ LL, LL = LF_FractionDigits p q c k := ⟨_, rfl⟩
                    rw [← hok, ← hLL] at HV1 HV2
                    rw [← hLL] at HVL
                    clear hok hLL
                    go_wp2_with fail
                    refine (HV1.out _).mono ?_
                    rintro e w14 ⟨uF, rfl, hr, hb⟩
                    have BE14 := Lib.hid (BE13.out.trans (hb.mono BE13.out.size))
                    have R8 := Lib.hid hr
                    clear hr hb
                    go_wp2_with fail
                    refine (HV2.out _).mono ?_
                    rintro e w15 ⟨uM, rfl, hr, hb⟩
                    have R9 := Lib.hid (R8.out.keep hb)
                    have BE15 := Lib.hid (BE14.out.trans (hb.mono BE14.out.size))
                    have R10 := Lib.hid hr
                    clear hr hb
                    cases ok
                    all_goals
                      go_wp2_with fail
                      refine (qSame_any _ _ LL _ R9.out.sl R10.out.sl HVL.out).mono ?_
                      rintro e w16 ⟨rfl, hb⟩
                      have R11 := Lib.hid (R9.out.keep hb)
                      have R12 := Lib.hid (R10.out.keep hb)
                      have BE16 := Lib.hid (BE15.out.trans (hb.mono BE15.out.size))
                      clear hb
                      go_wp2
                      go_ret
                      exact ⟨rfl, BE16.out⟩
              · rw [show ROrd m d = none from if_neg hR] at HU1 HU2
                simp only [Option.getD_none, Option.isSome_none] at HU1 HU2
                clear hR
                go_wp2_with fail
                refine (HU1.out _).mono ?_
                rintro e w10 ⟨rfl, hb⟩
                have BE10 := Lib.hid (BE9.out.trans (hb.mono BE9.out.size))
                clear hb
                go_wp2_with fail
                refine (HU2.out _).mono ?_
                rintro e w11 ⟨rfl, hb⟩
                have BE11 := Lib.hid (BE10.out.trans (hb.mono BE10.out.size))
                clear hb
                go_wp2_with fail
                refine (draw_FractionDigits _ xs1 _ (HS1.out.keep BE11.out) HL1.out).mono ?_
                rintro e y2 ⟨p, q, c, k, rfl, hb⟩
                have BE12 := Lib.hid (BE11.out.trans (hb.mono BE11.out.size))
                clear hb
                have HV1 := Lib.hid (fun w => impl_FractionDigits p q c k w)
                have HV2 := Lib.hid (fun w => spec_FractionDigits p q c k w)
                have HVL := Lib.hid (LF_FractionDigits_len p q c k)
                obtain ⟨ok, hok⟩ : ∃ ok, ok = OK_FractionDigits p q c k := ⟨_, rfl⟩
                obtain ⟨LL, hLL⟩ : ∃ LL, LL = LF_FractionDigits p q c k := ⟨_, rfl⟩
                rw [← hok, ← hLL] at HV1 HV2
                rw [← hLL] at HVL
                clear hok hLL
                go_wp2_with fail
                refine (HV1.out _).mono ?_
                rintro e w13 ⟨uF, rfl, hr, hb⟩
                have BE13 := Lib.hid (BE12.out.trans (hb.mono BE12.out.size))
                have R8 := Lib.hid hr
                clear hr hb
                go_wp2_with fail
                refine (HV2.out _).mono ?_
                rintro e w14 ⟨uM, rfl, hr, hb⟩
                have R9 := Lib.hid (R8.out.keep hb)
                have BE14 := Lib.hid (BE13.out.trans (hb.mono BE13.out.size))
                have R10 := Lib.hid hr
                clear hr hb
                cases ok
                all_goals
                  go_wp2_with fail
                  refine (qSame_any _ _ LL _ R9.out.sl R10.out.sl HVL.out).mono ?_
                  rintro e w15 ⟨rfl, hb⟩
                  have R11 := Lib.hid (R9.out.keep hb)
                  have R12 := Lib.hid (R10.out.keep hb)
                  have BE15 := Lib.hid (BE14.out.trans (hb.mono BE14.out.size))
                  clear hb
                  go_wp2
                  go_ret
                  exact ⟨rfl, BE15.out⟩
  · skip
    rw [show RPer a n b = none from if_neg hF] at HI1 HT1
    simp only [Option.getD_none, Option.isSome_none] at HI1 HT1
    have eO : OK_RepetendOf a n b = false := decide_eq_false (fun c => hF c.1)
    rw [eO] at HI2 HT2
    clear eO hF
    go_wp2_with fail
    refine (HI1.out _).mono ?_
    rintro e w2 ⟨rfl, hb⟩
    have BE2 := Lib.hid (BE1.out.trans (hb.mono BE1.out.size))
    clear hb
    go_wp2_with fail
    refine (HT1.out _).mono ?_
    rintro e w3 ⟨rfl, hb⟩
    have BE3 := Lib.hid (BE2.out.trans (hb.mono BE2.out.size))
    clear hb
    go_wp2_with fail
    refine (HI2.out _).mono ?_
    rintro e w4 ⟨uZ, rfl, hr, hb⟩
    have BE4 := Lib.hid (BE3.out.trans (hb.mono BE3.out.size))
    have R1 := Lib.hid hr
    clear hr hb
    go_wp2_with fail
    refine (HT2.out _).mono ?_
    rintro e w5 ⟨uX, rfl, hr, hb⟩
    have R2 := Lib.hid (R1.out.keep hb)
    have BE5 := Lib.hid (BE4.out.trans (hb.mono BE4.out.size))
    have R3 := Lib.hid hr
    clear hr hb
    go_wp2_with fail
    refine (qSame_any _ _ _ _ R2.out.sl R3.out.sl HRL.out).mono ?_
    rintro e w6 ⟨rfl, hb⟩
    have R4 := Lib.hid (R2.out.keep hb)
    have R5 := Lib.hid (R3.out.keep hb)
    have BE6 := Lib.hid (BE5.out.trans (hb.mono BE5.out.size))
    clear hb
    as_aux_lemma =>
      go_wp2_with fail
      refine (draw_OrderOf _ xs1 _ (HS1.out.keep BE6.out) HL1.out).mono ?_
      rintro e y1 ⟨m, d, rfl, hb⟩
      have BE7 := Lib.hid (BE6.out.trans (hb.mono BE6.out.size))
      clear hb
      have HU1 := Lib.hid (fun w => impl_OrderOf m d w)
      have HU2 := Lib.hid (fun w => spec_OrderOf m d w)
      simp only [optRes] at HU1 HU2
      by_cases hR : Bas d ∧ Den m ∧ Nat.gcd d.toNat m.toNat = 1
      · skip
        obtain ⟨⟨hb1, hb2⟩, ⟨hd1, hd2⟩, hgd⟩ := hR
        obtain ⟨M, rfl⟩ : ∃ M : Nat, m = (M : Int) := ⟨m.toNat, by omega⟩
        obtain ⟨D, rfl⟩ : ∃ D : Nat, d = (D : Int) := ⟨d.toNat, by omega⟩
        have hM : 0 < M := by omega
        have hM2 : M ≤ 2000 := by omega
        have hD : D ≤ 16 := by omega
        have hgd2 : Nat.gcd D M = 1 := by simpa using hgd
        have eO : ROrd (M : Int) (D : Int) = some ((ordN D M : Nat) : Int) := by rw [ord_at (by omega) hD hM hM2, if_pos hgd2]
        rw [eO] at HU1 HU2
        simp only [Option.getD_some, Option.isSome_some] at HU1 HU2
        obtain ⟨o1, o2, o3, o4⟩ := ord_spec hgd2 hM
        have HO3 := Lib.hid o3
        have HO4 := Lib.hid o4
        obtain ⟨O, hO⟩ : ∃ O, O = ordN D M := ⟨_, rfl⟩
        rw [← hO] at HU1 HU2 o1 o2 HO3 HO4
        clear hO eO o3 o4 hgd hgd2
        go_wp2_with fail
        refine (HU1.out _).mono ?_
        rintro e w8 ⟨rfl, hb⟩
        have BE8 := Lib.hid (BE7.out.trans (hb.mono BE7.out.size))
        clear hb
        go_wp2_with fail
        refine (HU2.out _).mono ?_
        rintro e w9 ⟨rfl, hb⟩
        have BE9 := Lib.hid (BE8.out.trans (hb.mono BE8.out.size))
        clear hb
        obtain ⟨e1, he1⟩ : ∃ e1, e1 = 1 % M := ⟨_, rfl⟩
        have HE1 := Lib.hid he1
        have he1M : e1 < M := by rw [he1]; exact Nat.mod_lt _ hM
        rw [← he1] at HO3 HO4
        have ht1 : Int.tmod 1 (M : Int) = (e1 : Int) := by rw [Int.tmod_eq_emod_of_nonneg (by omega), he1]; rfl
        have ht2 : (1 : Int) % (M : Int) = (e1 : Int) := by rw [he1]; rfl
        have hM0 : (M : Int) ≠ 0 := by omega
        have hM1 : ((M : Int) == 0) = false := beq_no hM0
        clear he1
        go_wp2
        go_loopw [32, 33] (fun p i wr => ∃ j : Nat, j ≤ O ∧ i = .int .i64 ((j : Int) + 1) ∧ p = .int .i64 ((it (mb D M) j e1 : Nat) : Int) ∧ Below w9.heap.size w9 wr) (fun _ i _ => (O : Int).toNat + 1 - (intOf i).toNat)
        case atStart => exact ⟨0, Nat.zero_le _, rfl, rfl, Below.refl _ _⟩
        case round =>
          obtain ⟨j, hj, rfl, rfl, hb⟩ := hrel
          have KB := Lib.hid hb
          clear hb
          by_cases hlt : j < O
          · have hji : (j : Int) + 1 ≤ (O : Int) := by omega
            have hit := it_lt (mb_into (b := D) hM) j he1M
            have hst : it (mb D M) (j + 1) e1 = it (mb D M) j e1 * (D % M) % M := by rw [mb_less]; rfl
            have hH4 := HO4.out (j + 1) (by omega)
            obtain ⟨x, hx⟩ : ∃ x, x = it (mb D M) j e1 := ⟨_, rfl⟩
            rw [← hx] at hit hst ⊢
            obtain ⟨c, hc⟩ : ∃ c, c = D % M := ⟨_, rfl⟩
            rw [← hc] at hst
            have hcM : c ≤ 16 := by rw [hc]; exact Nat.le_trans (Nat.mod_le _ _) hD
            have hc1 : Int.tmod (D : Int) (M : Int) = (c : Int) := by rw [Int.tmod_eq_emod_of_nonneg (by omega), hc]; rfl
            have hc2 : (D : Int) % (M : Int) = (c : Int) := by rw [hc]; rfl
            obtain ⟨P, hP⟩ : ∃ P, P = x * c := ⟨_, rfl⟩
            have hPb : P ≤ 32000 := by rw [hP]; exact Nat.mul_le_mul (show x ≤ 2000 by omega) hcM
            have hP2 : (x : Int) * (c : Int) = (P : Int) := by rw [hP]; simp
            rw [← hP] at hst
            obtain ⟨y, hy⟩ : ∃ y, y = it (mb D M) (j + 1) e1 := ⟨_, rfl⟩
            have HY := Lib.hid hy
            rw [← hy] at hst hH4
            have hyM : y < M := by rw [hst]; exact Nat.mod_lt _ hM
            have hp1 : Int.tmod (P : Int) (M : Int) = (y : Int) := by rw [Int.tmod_eq_emod_of_nonneg (by omega), hst]; rfl
            have hp2 : (P : Int) % (M : Int) = (y : Int) := by rw [hst]; rfl
            by_cases hjO : j + 1 = O
            · have hye : y = e1 := by rw [HY.out, hjO]; exact HO3.out
              have hq1 : ((y : Int) == (e1 : Int)) = true := by rw [hye]; simp
              have hq2 : ((j : Int) + 1 == (O : Int)) = true := by rw [← hjO]; simp
              clear hx hc hP hy hst hH4 hye
              go_wp2
              go_roundw
              case rel => exact ⟨j + 1, by omega, by go_num, by rw [← HY.out], KB.out⟩
              case measure => simp [intOf]; omega
            · have hye : y ≠ e1 := fun e => hH4 (by omega) e
              have hq1 : ((y : Int) == (e1 : Int)) = false := beq_no (by omega)
              have hq2 : ((j : Int) + 1 == (O : Int)) = false := beq_no (by omega)
              clear hx hc hP hy hst hH4 hye
              go_wp2
              go_roundw
              case rel => exact ⟨j + 1, by omega, by go_num, by rw [← HY.out], KB.out⟩
              case measure => simp [intOf]; omega
          · obtain rfl : j = O := by omega
            have hji : ¬ (j : Int) + 1 ≤ (j : Int) := by omega
            have BE10 := Lib.hid (BE9.out.trans (KB.out.mono BE9.out.size))
            obtain ⟨w10, hwr⟩ : ∃ w10, w10 = wr := ⟨_, rfl⟩
            subst hwr
            clear KB
            go_wp2_with fail
            refine (draw_FractionDigits _ xs1 _ (HS1.out.keep BE10.out) HL1.out).mono ?_
            rintro e y2 ⟨p, q, c, k, rfl, hb⟩
            have BE11 := Lib.hid (BE10.out.trans (hb.mono BE10.out.size))
            clear hb
            have HV1 := Lib.hid (fun w => impl_FractionDigits p q c k w)
            have HV2 := Lib.hid (fun w => spec_FractionDigits p q c k w)
            have HVL := Lib.hid (LF_FractionDigits_len p q c k)
            obtain ⟨ok, hok⟩ : ∃ ok, ok = OK_FractionDigits p q c k := ⟨_, rfl⟩
            obtain ⟨LL, hLL⟩ : ∃ LL, LL = LF_FractionDigits p q c k := ⟨_, rfl⟩
            rw [← hok, ← hLL] at HV1 HV2
            rw [← hLL] at HVL
            clear hok hLL
            go_wp2_with fail
            refine (HV1.out _).mono ?_
            rintro e w12 ⟨uF, rfl, hr, hb⟩
            have BE12 := Lib.hid (BE11.out.trans (hb.mono BE11.out.size))
            have R6 := Lib.hid hr
            clear hr hb
            go_wp2_with fail
            refine (HV2.out _).mono ?_
            rintro e w13 ⟨uM, rfl, hr, hb⟩
            have R7 := Lib.hid (R6.out.keep hb)
            have BE13 := Lib.hid (BE12.out.trans (hb.mono BE12.out.size))
            have R8 := Lib.hid hr
            clear hr hb
            cases ok
            all_goals
              go_wp2_with fail
              refine (qSame_any _ _ LL _ R7.out.sl R8.out.sl HVL.out).mono ?_
              rintro e w14 ⟨rfl, hb⟩
              have R9 := Lib.hid (R7.out.keep hb)
              have R10 := Lib.hid (R8.out.keep hb)
              have BE14 := Lib.hid (BE13.out.trans (hb.mono BE13.out.size))
              clear hb
              go_wp2
              go_ret
              exact ⟨rfl, BE14.out⟩
      · rw [show ROrd m d = none from if_neg hR] at HU1 HU2
        simp only [Option.getD_none, Option.isSome_none] at HU1 HU2
        clear hR
        go_wp2_with fail
        refine (HU1.out _).mono ?_
        rintro e w8 ⟨rfl, hb⟩
        have BE8 := Lib.hid (BE7.out.trans (hb.mono BE7.out.size))
        clear hb
        go_wp2_with fail
        refine (HU2.out _).mono ?_
        rintro e w9 ⟨rfl, hb⟩
        have BE9 := Lib.hid (BE8.out.trans (hb.mono BE8.out.size))
        clear hb
        go_wp2_with fail
        refine (draw_FractionDigits _ xs1 _ (HS1.out.keep BE9.out) HL1.out).mono ?_
        rintro e y2 ⟨p, q, c, k, rfl, hb⟩
        have BE10 := Lib.hid (BE9.out.trans (hb.mono BE9.out.size))
        clear hb
        have HV1 := Lib.hid (fun w => impl_FractionDigits p q c k w)
        have HV2 := Lib.hid (fun w => spec_FractionDigits p q c k w)
        have HVL := Lib.hid (LF_FractionDigits_len p q c k)
        obtain ⟨ok, hok⟩ : ∃ ok, ok = OK_FractionDigits p q c k := ⟨_, rfl⟩
        obtain ⟨LL, hLL⟩ : ∃ LL, LL = LF_FractionDigits p q c k := ⟨_, rfl⟩
        rw [← hok, ← hLL] at HV1 HV2
        rw [← hLL] at HVL
        clear hok hLL
        go_wp2_with fail
        refine (HV1.out _).mono ?_
        rintro e w11 ⟨uF, rfl, hr, hb⟩
        have BE11 := Lib.hid (BE10.out.trans (hb.mono BE10.out.size))
        have R6 := Lib.hid hr
        clear hr hb
        go_wp2_with fail
        refine (HV2.out _).mono ?_
        rintro e w12 ⟨uM, rfl, hr, hb⟩
        have R7 := Lib.hid (R6.out.keep hb)
        have BE12 := Lib.hid (BE11.out.trans (hb.mono BE11.out.size))
        have R8 := Lib.hid hr
        clear hr hb
        cases ok
        all_goals
          go_wp2_with fail
          refine (qSame_any _ _ LL _ R7.out.sl R8.out.sl HVL.out).mono ?_
          rintro e w13 ⟨rfl, hb⟩
          have R9 := Lib.hid (R7.out.keep hb)
          have R10 := Lib.hid (R8.out.keep hb)
          have BE13 := Lib.hid (BE12.out.trans (hb.mono BE12.out.size))
          clear hb
          go_wp2
          go_ret
          exact ⟨rfl, BE13.out⟩

end Go.Proofs.Ytgiabadkbfbilaa
