/-
  Joint text of 5N (written by wip/tools/merge.py).
-/
import Derived.Test.Ytnggfcopndcppaa5DM
import Derived.Test.YtnggfcopndcppaaTI
import Derived.Test.YtnggfcopndcppaaTQ
/- from X5N -/
namespace Go.Proofs.Ytnggfcopndcppaa
open Go.RowKit
set_option linter.unusedVariables false
set_option linter.unusedSimpArgs false
set_option maxRecDepth 100000

theorem sp_le {k : Nat} {b : Int} (h : Sp k b) {i : Nat} (hi : i + 1 ≤ k) : 0 ≤ (b - 1) * b ^ i ∧ (b - 1) * b ^ i ≤ 20000 := by
  have hb := h.b2
  have h1 := pw_pos b h.b2 i
  refine ⟨Int.mul_nonneg (by omega) (by omega), ?_⟩
  have hm : ∀ d, b ^ i ≤ b ^ (i + d) := fun d => by
    induction d with
    | zero => exact Int.le_refl _
    | succ d ih =>
      have h2 := pw_pos b h.b2 (i + d)
      have h3 : b ^ (i + d) * 1 ≤ b ^ (i + d) * b := Int.mul_le_mul_of_nonneg_left (by omega) (by omega)
      rw [← Nat.add_assoc, Int.pow_succ]
      omega
  have h4 := hm (k - 1 - i)
  rw [show i + (k - 1 - i) = k - 1 by omega] at h4
  exact Int.le_trans (Int.mul_le_mul_of_nonneg_left h4 (by omega)) h.le
theorem sl_liesN {w : World} {v : Value} {xs : List Int} (h : Sl w v xs) (h0 : 0 < xs.length) : ∃ b o cap, v = .slice (some ⟨b, o, none⟩) xs.length cap ∧ b < w.heap.size ∧ ∀ j, j < xs.length → w.cell? ⟨b, o + j, none⟩ = some (.int .i64 (xs.getD j 0)) := by
  obtain ⟨a, cap, rfl, hx⟩ := h
  rcases hx with hx | ⟨b, off, rfl, hbl, hc⟩
  · rw [hx] at h0; simp at h0
  · refine ⟨b, off, cap, rfl, hbl, fun j hj => ?_⟩
    rw [hc j hj, List.getD_eq_getElem?_getD, List.getElem?_eq_getElem hj]
    rfl

set_option maxHeartbeats 20000000 in
theorem law_RunsToSymmetric {W : World} (v0 : Value) (xs0 : List Int) (hs0 : Sb W v0 xs0) (v1 : Value) (xs1 : List Int) (hs1 : Sb W v1 xs1) :
    Calls Try.prog 4 #[v0, v1] W fun e w' => e = .returned (.bool true) ∧ Below W.heap.size W w' := by
  obtain ⟨a0, k0, rfl⟩ := hs0.len
  obtain ⟨a1, k1, rfl⟩ := hs1.len
  have HS0 := Lib.hid hs0
  have HS1 := Lib.hid hs1
  have HB := Lib.hid (big_any a0 a1 xs0.length xs1.length k0 k1 W)
  clear hs0 hs1
  by_cases hbig : 1048576 < xs0.length ∨ 1048576 < xs0.length + xs1.length
  · rw [decide_eq_true hbig] at HB
    go_enter Try.func4, Try.ntmps4
    go_wp2_with (go_at_call 6; refine HB.out.mono ?_; rintro e w ⟨rfl, rfl⟩)
    go_ret
    exact ⟨rfl, Below.refl _ _⟩
  rw [decide_eq_false hbig] at HB
  have hl0 : xs0.length ≤ 1048576 := by omega
  have hl1 : xs1.length ≤ 1048576 := by omega
  have HL1 := Lib.hid hl1
  clear hbig
  go_enter Try.func4, Try.ntmps4
  go_wp2_with fail
  refine HB.out.mono ?_
  rintro e w ⟨rfl, rfl⟩
  go_wp2_with fail
  refine (draw_AddedRun _ xs0 _ HS0.out hl0).mono ?_
  rintro e w1 ⟨u, ls, z, mm, rfl, hll, hr, hb⟩
  have BE1 := Lib.hid hb
  have R0 := Lib.hid hr
  have HLL := Lib.hid hll
  clear hb hr hl0 hl1 hll
  have HI1 := Lib.hid (fun w h => impl_AddedRun u ls z mm W.heap.size w h (by have := HLL.out; omega))
  have HT1 := Lib.hid (fun w h => spec_AddedRun u ls z mm W.heap.size w h (by have := HLL.out; omega))
  have HI2 := Lib.hid (fun w h => impl_StepsToSymmetric u ls z mm W.heap.size w h (by have := HLL.out; omega))
  have HT2 := Lib.hid (fun w h => spec_StepsToSymmetric u ls z mm W.heap.size w h (by have := HLL.out; omega))
  have HBD := Lib.hid (LF_AddedRun_bd ls z mm)
  simp only [VAL_StepsToSymmetric, OK_AddedRun] at HI1 HT1 HI2 HT2
  rcases Bool.eq_false_or_eq_true (okAR ls z mm) with ho | ho
  · skip
    obtain ⟨ho1, ho2⟩ : okR z ls = true ∧ okM mm = true := by simpa [okAR] using ho
    have eL : LF_AddedRun ls z mm = rvR z mm.toNat ls := LFR_yes ho
    have eS : R_Steps ls z mm = rvT z mm.toNat ls := R_Steps_yes ho1 ho2
    have hRF := rvR_rows mm.toNat ls ho1
    have hla := rvT_last (b := z) (m := mm.toNat) (x := ls)
    rw [ho, eL] at HI1 HT1
    rw [eS, hla] at HI2 HT2
    rw [eL] at HBD
    obtain ⟨RW, hRW⟩ : ∃ RW, RW = rvR z mm.toNat ls := ⟨_, rfl⟩
    rw [← hRW] at HI1 HT1 HI2 HT2 HBD hRF
    have HRF := Lib.hid hRF
    clear ho ho1 ho2 eL eS hla hRW hRF
    obtain ⟨pl, hpl⟩ : ∃ pl, pl = palB (RW.getD (RW.length - 1) []) := ⟨_, rfl⟩
    rw [← hpl] at HI2 HT2
    have HPL := Lib.hid hpl
    clear hpl
    go_wp2_with fail
    refine (HI1.out _ R0.out).mono ?_
    rintro e w2 ⟨uC, vC, rfl, hll, hb⟩
    have R1 := Lib.hid (R0.out.keep hb)
    have BE2 := Lib.hid (BE1.out.trans (hb.mono BE1.out.size))
    have R2 := Lib.hid hll.f
    have HVC := Lib.hid hll.len
    clear hll hb
    go_wp2_with fail
    refine (HT1.out _ R1.out).mono ?_
    rintro e w3 ⟨uX, vX, rfl, hll, hb⟩
    have R3 := Lib.hid (R1.out.keep hb)
    have R4 := Lib.hid (R2.out.keep hb)
    have BE3 := Lib.hid (BE2.out.trans (hb.mono BE2.out.size))
    have R5 := Lib.hid hll.f
    have HVX := Lib.hid hll.len
    clear hll hb
    have hpos := HRF.out.pos
    obtain ⟨ST, hST⟩ : ∃ ST, RW.length = ST + 1 := ⟨RW.length - 1, by omega⟩
    rw [hST, Nat.add_sub_cancel] at HI2 HT2 HPL
    have HST := Lib.hid hST
    have hST9 : ST ≤ 40000 := by have := HBD.out.1; omega
    clear hpos hST
    cases pl
    · skip
      simp only [Bool.false_eq_true, if_false, Option.getD_none, Option.isSome_none] at HI2 HT2
      go_wp2_with fail
      refine (HI2.out _ R3.out).mono ?_
      rintro e w4 ⟨rfl, hb⟩
      have R6 := Lib.hid (R3.out.keep hb)
      have R7 := Lib.hid (R4.out.keep hb)
      have R8 := Lib.hid (R5.out.keep hb)
      have BE4 := Lib.hid (BE3.out.trans (hb.mono BE3.out.size))
      clear hb
      go_wp2_with fail
      refine (HT2.out _ R6.out).mono ?_
      rintro e w5 ⟨rfl, hb⟩
      have R9 := Lib.hid (R6.out.keep hb)
      have R10 := Lib.hid (R7.out.keep hb)
      have R11 := Lib.hid (R8.out.keep hb)
      have BE5 := Lib.hid (BE4.out.trans (hb.mono BE4.out.size))
      clear hb
      go_wp2_with fail
      refine (qSameRows_same _ _ vC vX _ _ _ _ R10.out R11.out (by rw [HVC.out, HVX.out]) (by rw [HVC.out]; exact HBD.out.1) (fun i => Nat.le_trans (HBD.out.2 i) (by omega))).mono ?_
      rintro e w6 ⟨rfl, hb⟩
      have R12 := Lib.hid (R10.out.keep hb)
      have R13 := Lib.hid (R11.out.keep hb)
      have BE6 := Lib.hid (BE5.out.trans (hb.mono BE5.out.size))
      clear hb
      obtain ⟨aC, cC, hCe, hca⟩ := R12.out.shape
      subst hCe
      have HCA := Lib.hid hca
      have hvl := HVC.out.trans HST.out
      obtain ⟨NV, hNV⟩ : ∃ NV, NV = vC.length := ⟨_, rfl⟩
      have HNV := Lib.hid hNV
      rw [← hNV] at hvl ⊢
      have hSi : (ST : Int) + 1 = (NV : Int) := by omega
      have HVE := Lib.hid hvl
      have hnv9 : NV ≤ 40001 := by omega
      clear hca hNV hvl
      go_wp2
      go_loopw [118] (fun i wr => ∃ j : Nat, j ≤ NV ∧ i = .int .i64 (j : Int) ∧ Below w6.heap.size w6 wr) (fun i _ => NV - (intOf i).toNat)
      case atStart => exact ⟨0, Nat.zero_le _, rfl, Below.refl _ _⟩
      case round =>
        obtain ⟨j, hj, rfl, hb⟩ := hrel
        have KB := Lib.hid hb
        clear hb
        by_cases hlt : j < NV
        · have hji : (j : Int) < (NV : Int) := by omega
          have hjv : j < vC.length := by rw [← HNV.out]; exact hlt
          rcases HCA.out with h0 | ⟨gv, rfl⟩
          · rw [h0] at hjv; simp at hjv
          obtain ⟨uj, huj⟩ : ∃ uj, vC[j]? = some uj := ⟨vC[j], List.getElem?_eq_getElem hjv⟩
          have zj := (R12.out.keep KB.out).cell huj
          have hrj := (R12.out.keep KB.out).at' j uj huj
          have hro : okR z (RW.getD j []) = true := HRF.out.ok j (by rw [HST.out, ← HVE.out]; exact hlt)
          have hr40 := (okR_dg hro).l40
          have RJ := Lib.hid (show Rd wr _ uj (RW.getD j []) from hrj)
          have HQ1 := Lib.hid (fun w B (h : Rd w B uj (RW.getD j [])) => impl_IsSymmetric uj (RW.getD j []) z B w h (by omega))
          simp only [VAL_IsSymmetric] at HQ1
          rw [hro, Bool.true_and] at HQ1
          by_cases hnx : j + 1 < NV
          · obtain ⟨n1, n2, n3⟩ := HRF.out.next j (by rw [HST.out, ← HVE.out]; exact hnx)
            have hnxi : (j : Int) + 1 < (NV : Int) := by omega
            rw [n1] at HQ1
            have hjs : ((j : Int) == (ST : Int)) = false := beq_no (by have := HVE.out; omega)
            have hjv2 : j + 1 < vC.length := by rw [← HNV.out]; exact hnx
            obtain ⟨uk, huk⟩ : ∃ uk, vC[j + 1]? = some uk := ⟨vC[j + 1], List.getElem?_eq_getElem hjv2⟩
            have eA : okA z (RW.getD j []) = true := okA_yes hro n3
            have eS : LF_AddReversed (RW.getD j []) z = RW.getD (j + 1) [] := by rw [show LF_AddReversed (RW.getD j []) z = rvA z (RW.getD j []) from if_pos eA, n2]
            have HQ2 := Lib.hid (fun w B (h : Rd w B uj (RW.getD j [])) => impl_AddReversed uj (RW.getD j []) z B w h (by omega))
            simp only [OK_AddReversed] at HQ2
            rw [eA, eS] at HQ2
            have hk40 : (RW.getD (j + 1) []).length ≤ 40 := by rw [n2]; exact n3
            have HUK := Lib.hid huk
            clear n1 n2 n3 eA eS huj hrj huk hro
            go_wp2_with fail
            refine (HQ1.out _ _ RJ.out).mono ?_
            rintro e z1 ⟨rfl, hb⟩
            have KB1 := Lib.hid (KB.out.trans (hb.mono KB.out.size))
            have RJ1 := Lib.hid (RJ.out.keep hb)
            clear hb
            go_wp2_with fail
            refine (HQ2.out _ _ RJ1.out).mono ?_
            rintro e z2 ⟨un, rfl, hr, hb⟩
            have KB2 := Lib.hid (KB1.out.trans (hb.mono KB1.out.size))
            have RU := Lib.hid hr
            clear hb hr zj
            have zk := (R12.out.keep KB2.out).cell HUK.out
            have RK := Lib.hid (show Rd z2 _ uk (RW.getD (j + 1) []) from (R12.out.keep KB2.out).at' (j + 1) uk HUK.out)
            go_wp2_with fail
            refine (qSame_any _ _ (RW.getD (j + 1) []) _ RU.out.sl RK.out.sl (by omega)).mono ?_
            rintro e z3 ⟨rfl, hb⟩
            have KB3 := Lib.hid (KB2.out.trans (hb.mono KB2.out.size))
            clear hb zk
            go_wp2
            go_roundw
            case rel => exact ⟨j + 1, by omega, by go_num, KB3.out⟩
            case measure => simp [intOf]; omega
          · have hjST : j = ST := by have := HVE.out; omega
            have hpj : palB (RW.getD j []) = false := by rw [hjST]; exact HPL.out.symm
            rw [hpj] at HQ1
            have hnxi : ¬ (j : Int) + 1 < (NV : Int) := by omega
            have hjs : ((j : Int) == (ST : Int)) = true := by rw [hjST]; simp
            clear hpj hjST huj hrj hro
            go_wp2_with fail
            refine (HQ1.out _ _ RJ.out).mono ?_
            rintro e z1 ⟨rfl, hb⟩
            have KB1 := Lib.hid (KB.out.trans (hb.mono KB.out.size))
            clear hb zj
            go_wp2
            go_roundw
            case rel => exact ⟨j + 1, by omega, by go_num, KB1.out⟩
            case measure => simp [intOf]; omega
        · obtain rfl : j = NV := by omega
          have BE7 := Lib.hid (BE6.out.trans (KB.out.mono BE6.out.size))
          obtain ⟨w7, hwr⟩ : ∃ w7, w7 = wr := ⟨_, rfl⟩
          subst hwr
          clear KB
          as_aux_lemma =>
            go_wp2_with fail
            refine (draw_StepsSpread _ xs1 _ (HS1.out.keep BE7.out) HL1.out).mono ?_
            rintro e y1 ⟨V, b, m, rfl, hm40, hb⟩
            have BE8 := Lib.hid (BE7.out.trans (hb.mono BE7.out.size))
            clear hb
            have HU1 := Lib.hid (fun w => impl_StepsSpread V b m w)
            have HU2 := Lib.hid (fun w => spec_StepsSpread V b m w)
            have HU3 := Lib.hid (fun w => impl_SlowestNumber V b m w)
            have HU4 := Lib.hid (fun w => spec_SlowestNumber V b m w)
            have HUL := Lib.hid (LF_StepsSpread_len V b m)
            simp only [OK_StepsSpread, VAL_SlowestNumber] at HU1 HU2 HU3 HU4
            rcases Bool.eq_false_or_eq_true (okSS V b m) with ho | ho
            · skip
              obtain ⟨hsp, hm0, hm1⟩ : okSp V b = true ∧ 0 ≤ m ∧ m ≤ 100 := by simpa [okSS, okM] using ho
              obtain ⟨k, rfl, hS⟩ := okSp_sp hsp
              obtain ⟨M, rfl⟩ : ∃ M : Nat, m = (M : Int) := ⟨m.toNat, by omega⟩
              have hF := spr_facts hS M
              have hse := (slw_end hS M).1
              have eL : LF_StepsSpread (k : Int) b (M : Int) = sprN k b M (cnN k b) := LFS_yes ho
              have e2 : SL2 (k : Int) b (M : Int) = (((slwN k b M (cnN k b)).2.toNat : Nat) : Int) := by unfold SL2; rw [if_pos ho]; show (slwN k b M (cnN k b)).2 = _; omega
              rw [ho, eL] at HU1 HU2
              rw [ho, e2] at HU3 HU4
              rw [eL] at HUL
              obtain ⟨s1, hs1⟩ : ∃ s1, s1 = SL1 (k : Int) b (M : Int) := ⟨_, rfl⟩
              rw [← hs1] at HU3 HU4
              obtain ⟨T, hT⟩ : ∃ T, T = (slwN k b M (cnN k b)).2.toNat := ⟨_, rfl⟩
              rw [← hT] at HU3 HU4 hF
              obtain ⟨L, hL⟩ : ∃ L, L = sprN k b M (cnN k b) := ⟨_, rfl⟩
              rw [← hL] at HU1 HU2 HUL hF
              have HF := Lib.hid hF
              have HSP := Lib.hid hS
              have hM40 : M ≤ 40 := by omega
              have hTM := hF.top.1
              have hb2 := hS.b2
              have hb16 := hS.b16
              have hk1 := hS.v1
              have hk14 := hS.v14
              clear ho hsp hF hse eL e2 hs1 hT hL hS hm0 hm1 hm40
              go_wp2_with fail
              refine (HU1.out _).mono ?_
              rintro e w9 ⟨uA, rfl, hr, hb⟩
              have BE9 := Lib.hid (BE8.out.trans (hb.mono BE8.out.size))
              have R14 := Lib.hid hr
              clear hr hb
              go_wp2_with fail
              refine (HU2.out _).mono ?_
              rintro e w10 ⟨uB, rfl, hr, hb⟩
              have R15 := Lib.hid (R14.out.keep hb)
              have BE10 := Lib.hid (BE9.out.trans (hb.mono BE9.out.size))
              have R16 := Lib.hid hr
              clear hr hb
              go_wp2_with fail
              refine (HU3.out _).mono ?_
              rintro e w11 ⟨rfl, hb⟩
              have R17 := Lib.hid (R15.out.keep hb)
              have R18 := Lib.hid (R16.out.keep hb)
              have BE11 := Lib.hid (BE10.out.trans (hb.mono BE10.out.size))
              clear hb
              go_wp2_with fail
              refine (HU4.out _).mono ?_
              rintro e w12 ⟨rfl, hb⟩
              have R19 := Lib.hid (R17.out.keep hb)
              have R20 := Lib.hid (R18.out.keep hb)
              have BE12 := Lib.hid (BE11.out.trans (hb.mono BE11.out.size))
              clear hb
              go_wp2_with fail
              refine (qSame_any _ _ L _ R19.out.sl R20.out.sl HUL.out).mono ?_
              rintro e w13 ⟨rfl, hb⟩
              have R21 := Lib.hid (R19.out.keep hb)
              have R22 := Lib.hid (R20.out.keep hb)
              have BE13 := Lib.hid (BE12.out.trans (hb.mono BE12.out.size))
              clear hb
              obtain ⟨gA, oA, cA, hAe, hgA, hzA⟩ := sl_liesN R21.out.sl (by rw [HF.out.len]; omega)
              subst hAe
              have HZA := Lib.hid (fun j (hj : j < M + 2) => hzA j (by rw [HF.out.len]; exact hj))
              have hll := HF.out.len
              rw [hll]
              obtain ⟨NL, hNL⟩ : ∃ NL, NL = M + 2 := ⟨_, rfl⟩
              have HNL := Lib.hid hNL
              rw [← hNL]
              have RA := Lib.hid (show Rd _ _ (.slice (some ⟨gA, oA, none⟩) NL cA) L from by have h := R21.out; rw [hll, ← hNL] at h; exact h)
              have hNLi : (M : Int) + 2 = (NL : Int) := by omega
              clear hzA hll hNL
              go_wp2
              go_loopw [35, 36] (fun q i wr => ∃ (j : Nat) (A : Int), j + 1 ≤ k ∧ i = .int .i64 ((j : Int) + 1) ∧ q = .int .i64 A ∧ Hid (A = (b - 1) * b ^ j) ∧ Below w13.heap.size w13 wr) (fun _ i _ => k + 1 - (intOf i).toNat)
              case atStart => exact ⟨0, b - 1, hk1, by go_num, by go_num, Lib.hid (by simp), Below.refl _ _⟩
              case round =>
                obtain ⟨j, A, hj, rfl, rfl, HA, hb⟩ := hrel
                have KB := Lib.hid hb
                clear hb
                by_cases hlt : j + 1 < k
                · have hji : (j : Int) + 1 < (k : Int) := by omega
                  obtain ⟨q1, q2⟩ := sp_le HSP.out (i := j + 1) (by omega)
                  obtain ⟨A2, hA2⟩ : ∃ A2, A2 = (b - 1) * b ^ (j + 1) := ⟨_, rfl⟩
                  have hP : A * b = A2 := by rw [hA2, HA.out, Int.pow_succ, Int.mul_assoc]
                  rw [← hA2] at q1 q2
                  have HA2 := Lib.hid hA2
                  clear hA2
                  go_wp2
                  go_roundw
                  case rel => exact ⟨j + 1, A2, by omega, by go_num, by first | rfl | go_num, HA2, KB.out⟩
                  case measure => simp [intOf]; omega
                · obtain rfl : k = j + 1 := by omega
                  have R23 := Lib.hid (RA.out.keep KB.out)
                  have BE14 := Lib.hid (BE13.out.trans (KB.out.mono BE13.out.size))
                  obtain ⟨w14, hwr⟩ : ∃ w14, w14 = wr := ⟨_, rfl⟩
                  subst hwr
                  clear KB
                  have HAS := Lib.hid (show A = L.sum by rw [HA.out, HF.out.sum]; rfl)
                  have hji : ¬ (j : Int) + 1 < ((j + 1 : Nat) : Int) := by omega
                  skip
                  go_wp2
                  go_loopw [37, 38] (fun l i wr => ∃ (j : Nat) (la : Int), j ≤ M + 1 ∧ i = .int .i64 (j : Int) ∧ l = .int .i64 la ∧ ((j ≤ T ∧ -1 ≤ la ∧ la < (j : Int)) ∨ (T < j ∧ la = (T : Int))) ∧ Below w14.heap.size w14 wr) (fun _ i _ => M + 1 - (intOf i).toNat)
                  case atStart => exact ⟨0, -1, Nat.zero_le _, rfl, rfl, .inl ⟨Nat.zero_le _, by omega, by omega⟩, Below.refl _ _⟩
                  case round =>
                    obtain ⟨q, la, hq, rfl, rfl, hla, hb⟩ := hrel
                    have KB := Lib.hid hb
                    clear hb
                    by_cases hlt : q ≤ M
                    · have hqi : (q : Int) ≤ (M : Int) := by omega
                      have hqN : (q : Int) < (NL : Int) := by omega
                      obtain ⟨gB, oB, cB, hBe, hgB, hzB⟩ := sl_liesN (R23.out.keep KB.out).sl (by rw [HF.out.len]; omega)
                      have hae : gA = gB ∧ oA = oB := by injection hBe with h1; injection h1 with h2; injection h2 with h3 h4; exact ⟨h3, h4⟩
                      obtain ⟨rfl, rfl⟩ := hae
                      have zq := hzB q (by rw [HF.out.len]; omega)
                      have htop := HF.out.top.2
                      have hnone := HF.out.none q
                      obtain ⟨x, hx⟩ : ∃ x, x = L.getD q 0 := ⟨_, rfl⟩
                      rw [← hx] at zq hnone
                      have HTP := Lib.hid (show q = T → 0 < x from fun e => by rw [hx, e]; exact htop)
                      clear hBe hzB hx htop
                      by_cases h0 : 0 < x
                      · skip
                        have HNX := Lib.hid (show (q + 1 ≤ T ∧ -1 ≤ (q : Int) ∧ (q : Int) < ((q + 1 : Nat) : Int)) ∨ (T < q + 1 ∧ (q : Int) = (T : Int)) from by by_cases e : q < T; exact .inl ⟨by omega, by omega, by omega⟩; exact .inr ⟨by omega, by have := hnone; by_cases e2 : T < q; exact absurd h0 (hnone e2 hlt); omega⟩)
                        clear hla hnone
                        go_wp2
                        go_roundw
                        case rel => exact ⟨q + 1, _, by omega, by go_num, rfl, HNX.out, KB.out⟩
                        case measure => simp [intOf]; omega
                      · skip
                        have HNX := Lib.hid (show (q + 1 ≤ T ∧ -1 ≤ la ∧ la < ((q + 1 : Nat) : Int)) ∨ (T < q + 1 ∧ la = (T : Int)) from by rcases hla with ⟨c1, c2, c3⟩ | ⟨c1, c2⟩; (by_cases e : q = T; exact absurd (HTP.out e) h0; exact .inl ⟨by omega, by omega, by omega⟩); exact .inr ⟨by omega, c2⟩)
                        clear hla hnone
                        go_wp2
                        go_roundw
                        case rel => exact ⟨q + 1, _, by omega, by go_num, rfl, HNX.out, KB.out⟩
                        case measure => simp [intOf]; omega
                    · obtain rfl : la = (T : Int) := by omega
                      obtain rfl : q = M + 1 := by omega
                      have hqi : ¬ ((M + 1 : Nat) : Int) ≤ (M : Int) := by omega
                      clear hla
                      have R24 := Lib.hid (R23.out.keep KB.out)
                      have BE15 := Lib.hid (BE14.out.trans (KB.out.mono BE14.out.size))
                      obtain ⟨w15, hwr⟩ : ∃ w15, w15 = wr := ⟨_, rfl⟩
                      subst hwr
                      clear KB
                      have HSM := Lib.hid (qSum_mid _ L _ R24.out.sl (by rw [HF.out.len]; omega) HF.out.bd)
                      rw [← HAS.out] at HSM
                      go_wp2_with fail
                      refine (HSM.out).mono ?_
                      rintro e w16 ⟨rfl, hb⟩
                      have R25 := Lib.hid (R24.out.keep hb)
                      have BE16 := Lib.hid (BE15.out.trans (hb.mono BE15.out.size))
                      clear hb
                      as_aux_lemma =>
                        go_wp2_with fail
                        refine (draw_NeverWord _ xs1 _ (HS1.out.keep BE16.out) HL1.out).mono ?_
                        rintro e y2 ⟨k, rfl, hk, hb⟩
                        have BE17 := Lib.hid (BE16.out.trans (hb.mono BE16.out.size))
                        clear hb
                        have HW1 := Lib.hid (fun w => impl_NeverWord k w)
                        have HW2 := Lib.hid (fun w => spec_NeverWord k w)
                        have HWL := Lib.hid (LF_NeverWord_len k)
                        have HWN := Lib.hid (fun w => impl_NeverWord (k + 1) w)
                        simp only [OK_NeverWord] at HW1 HW2 HWN
                        by_cases hkk : 2 ≤ k ∧ k ≤ 17
                        · obtain ⟨K, rfl⟩ : ∃ K : Nat, k = (K : Int) := ⟨k.toNat, by omega⟩
                          have hk2 : 2 ≤ K := by omega
                          have hk17 : K ≤ 17 := by omega
                          have e1 : okNv (K : Int) = true := decide_eq_true hkk
                          have e2 : LF_NeverWord (K : Int) = nvW K := if_pos e1
                          rw [e1, e2] at HW1 HW2
                          rw [e2] at HWL
                          have HNF := Lib.hid (nv_facts hk2 hk17)
                          clear e1 e2 hkk hk
                          go_wp2_with fail
                          refine (HW1.out _).mono ?_
                          rintro e w18 ⟨uA, rfl, hr, hb⟩
                          have BE18 := Lib.hid (BE17.out.trans (hb.mono BE17.out.size))
                          have R26 := Lib.hid hr
                          clear hr hb
                          go_wp2_with fail
                          refine (HW2.out _).mono ?_
                          rintro e w19 ⟨uB, rfl, hr, hb⟩
                          have R27 := Lib.hid (R26.out.keep hb)
                          have BE19 := Lib.hid (BE18.out.trans (hb.mono BE18.out.size))
                          have R28 := Lib.hid hr
                          clear hr hb
                          go_wp2_with fail
                          refine (qSame_any _ _ (nvW K) _ R27.out.sl R28.out.sl HWL.out).mono ?_
                          rintro e w20 ⟨rfl, hb⟩
                          have R29 := Lib.hid (R27.out.keep hb)
                          have R30 := Lib.hid (R28.out.keep hb)
                          have BE20 := Lib.hid (BE19.out.trans (hb.mono BE19.out.size))
                          clear hb
                          have RA := Lib.hid (R29.out.mono BE17.out.size)
                          go_wp2
                          go_loopw [44, 45] (fun u i wr => ∃ n : Nat, n ≤ 4 ∧ i = .int .i64 (n : Int) ∧ Rd wr W.heap.size u (nvS K n) ∧ Below w20.heap.size w20 wr) (fun _ i _ => 4 - (intOf i).toNat)
                          case atStart => exact ⟨0, Nat.zero_le _, rfl, RA.out, Below.refl _ _⟩
                          case round =>
                            obtain ⟨n, hn, rfl, hr, hb⟩ := hrel
                            have KB := Lib.hid hb
                            have RN := Lib.hid hr
                            clear hb hr
                            by_cases hlt : n < 4
                            · have hni : (n : Int) < 4 := by omega
                              obtain ⟨p1, p2⟩ := HNF.out.2 n (by omega)
                              obtain ⟨p3, p4⟩ := HNF.out.2 (n + 1) (by omega)
                              have hd1 := (okR_dg p2).l40
                              have hd2 := (okR_dg p4).l40
                              skip
                              have eA : okA 2 (nvS K n) = true := okA_yes p2 hd2
                              skip
                              have eS : LF_AddReversed (nvS K n) 2 = nvS K (n + 1) := if_pos eA
                              have HQ1 := Lib.hid (fun v w h => impl_IsSymmetric v (nvS K n) 2 W.heap.size w h (by omega))
                              have HQ2 := Lib.hid (fun v w h => impl_AddReversed v (nvS K n) 2 W.heap.size w h (by omega))
                              simp only [VAL_IsSymmetric, OK_AddReversed] at HQ1 HQ2
                              rw [p2, p1, Bool.true_and] at HQ1
                              rw [eA, eS] at HQ2
                              clear p1 p2 p3 p4 eA eS
                              go_wp2_with fail
                              refine (HQ1.out _ _ RN.out).mono ?_
                              rintro e z1 ⟨rfl, hb⟩
                              have KB1 := Lib.hid (KB.out.trans (hb.mono KB.out.size))
                              have RN1 := Lib.hid (RN.out.keep hb)
                              clear hb
                              go_wp2_with fail
                              refine (HQ2.out _ _ RN1.out).mono ?_
                              rintro e z2 ⟨un, rfl, hr, hb⟩
                              have KB2 := Lib.hid (KB1.out.trans (hb.mono KB1.out.size))
                              have RN2 := Lib.hid (hr.mono (Nat.le_trans BE20.out.size KB1.out.size))
                              clear hb hr
                              go_wp2
                              go_roundw
                              case rel => exact ⟨n + 1, by omega, by go_num, RN2.out, KB2.out⟩
                              case measure => simp [intOf]; omega
                            · obtain rfl : n = 4 := by omega
                              have hn4 := HNF.out.1
                              rw [hn4] at RN
                              clear hn4
                              have BE21 := Lib.hid (BE20.out.trans (KB.out.mono BE20.out.size))
                              clear KB
                              by_cases h16 : K ≤ 16
                              · have e1 : okNv ((K : Int) + 1) = true := decide_eq_true (by omega)
                                have e2 : LF_NeverWord ((K : Int) + 1) = nvW (K + 1) := (if_pos e1).trans (by rw [show ((K : Int) + 1).toNat = K + 1 by omega])
                                rw [e1, e2] at HWN
                                have hwl : (nvW (K + 1)).length ≤ 2000000 := by unfold nvW; simp; omega
                                clear e1 e2
                                go_wp2_with fail
                                refine (HWN.out _).mono ?_
                                rintro e w22 ⟨uQ, rfl, hr, hb⟩
                                have R31 := Lib.hid (RN.out.keep hb)
                                have BE22 := Lib.hid (BE21.out.trans (hb.mono BE21.out.size))
                                have R32 := Lib.hid hr
                                clear hr hb
                                go_wp2_with fail
                                refine (qSame_any _ _ (nvW (K + 1)) _ R31.out.sl R32.out.sl hwl).mono ?_
                                rintro e w23 ⟨rfl, hb⟩
                                have R33 := Lib.hid (R31.out.keep hb)
                                have R34 := Lib.hid (R32.out.keep hb)
                                have BE23 := Lib.hid (BE22.out.trans (hb.mono BE22.out.size))
                                clear hb
                                go_wp2
                                go_ret
                                exact ⟨rfl, BE23.out⟩
                              · have e1 : okNv ((K : Int) + 1) = false := decide_eq_false (by omega)
                                rw [e1] at HWN
                                go_wp2_with fail
                                refine (HWN.out _).mono ?_
                                rintro e w22 ⟨uQ, rfl, hr, hb⟩
                                have R31 := Lib.hid (RN.out.keep hb)
                                have BE22 := Lib.hid (BE21.out.trans (hb.mono BE21.out.size))
                                have R32 := Lib.hid hr
                                clear hr hb
                                go_wp2
                                go_ret
                                exact ⟨rfl, BE22.out⟩
                        · have e1 : okNv k = false := decide_eq_false hkk
                          have e2 : LF_NeverWord k = [] := if_neg (by rw [e1]; simp)
                          rw [e1, e2] at HW1 HW2
                          clear e1 e2
                          go_wp2_with fail
                          refine (HW1.out _).mono ?_
                          rintro e w18 ⟨uA, rfl, hr, hb⟩
                          have BE18 := Lib.hid (BE17.out.trans (hb.mono BE17.out.size))
                          have R26 := Lib.hid hr
                          clear hr hb
                          go_wp2_with fail
                          refine (HW2.out _).mono ?_
                          rintro e w19 ⟨uB, rfl, hr, hb⟩
                          have R27 := Lib.hid (R26.out.keep hb)
                          have BE19 := Lib.hid (BE18.out.trans (hb.mono BE18.out.size))
                          have R28 := Lib.hid hr
                          clear hr hb
                          go_wp2_with fail
                          refine (qSame_any _ _ [] _ R27.out.sl R28.out.sl (by simp)).mono ?_
                          rintro e w20 ⟨rfl, hb⟩
                          have R29 := Lib.hid (R27.out.keep hb)
                          have R30 := Lib.hid (R28.out.keep hb)
                          have BE20 := Lib.hid (BE19.out.trans (hb.mono BE19.out.size))
                          clear hb
                          go_wp2
                          go_ret
                          exact ⟨rfl, BE20.out⟩
            · skip
              have eL : LF_StepsSpread V b m = [] := LFS_no ho
              rw [ho, eL] at HU1 HU2
              rw [ho] at HU3 HU4
              obtain ⟨s1, hs1⟩ : ∃ s1, s1 = SL1 V b m := ⟨_, rfl⟩
              obtain ⟨s2, hs2⟩ : ∃ s2, s2 = SL2 V b m := ⟨_, rfl⟩
              rw [← hs1, ← hs2] at HU3 HU4
              clear ho eL hs1 hs2
              go_wp2_with fail
              refine (HU1.out _).mono ?_
              rintro e w9 ⟨uA, rfl, hr, hb⟩
              have BE9 := Lib.hid (BE8.out.trans (hb.mono BE8.out.size))
              have R14 := Lib.hid hr
              clear hr hb
              go_wp2_with fail
              refine (HU2.out _).mono ?_
              rintro e w10 ⟨uB, rfl, hr, hb⟩
              have R15 := Lib.hid (R14.out.keep hb)
              have BE10 := Lib.hid (BE9.out.trans (hb.mono BE9.out.size))
              have R16 := Lib.hid hr
              clear hr hb
              go_wp2_with fail
              refine (HU3.out _).mono ?_
              rintro e w11 ⟨rfl, hb⟩
              have R17 := Lib.hid (R15.out.keep hb)
              have R18 := Lib.hid (R16.out.keep hb)
              have BE11 := Lib.hid (BE10.out.trans (hb.mono BE10.out.size))
              clear hb
              go_wp2_with fail
              refine (HU4.out _).mono ?_
              rintro e w12 ⟨rfl, hb⟩
              have R19 := Lib.hid (R17.out.keep hb)
              have R20 := Lib.hid (R18.out.keep hb)
              have BE12 := Lib.hid (BE11.out.trans (hb.mono BE11.out.size))
              clear hb
              go_wp2_with fail
              refine (qSame_any _ _ [] _ R19.out.sl R20.out.sl (by simp)).mono ?_
              rintro e w13 ⟨rfl, hb⟩
              have R21 := Lib.hid (R19.out.keep hb)
              have R22 := Lib.hid (R20.out.keep hb)
              have BE13 := Lib.hid (BE12.out.trans (hb.mono BE12.out.size))
              clear hb
              as_aux_lemma =>
                go_wp2_with fail
                refine (draw_NeverWord _ xs1 _ (HS1.out.keep BE13.out) HL1.out).mono ?_
                rintro e y2 ⟨k, rfl, hk, hb⟩
                have BE14 := Lib.hid (BE13.out.trans (hb.mono BE13.out.size))
                clear hb
                have HW1 := Lib.hid (fun w => impl_NeverWord k w)
                have HW2 := Lib.hid (fun w => spec_NeverWord k w)
                have HWL := Lib.hid (LF_NeverWord_len k)
                have HWN := Lib.hid (fun w => impl_NeverWord (k + 1) w)
                simp only [OK_NeverWord] at HW1 HW2 HWN
                by_cases hkk : 2 ≤ k ∧ k ≤ 17
                · obtain ⟨K, rfl⟩ : ∃ K : Nat, k = (K : Int) := ⟨k.toNat, by omega⟩
                  have hk2 : 2 ≤ K := by omega
                  have hk17 : K ≤ 17 := by omega
                  have e1 : okNv (K : Int) = true := decide_eq_true hkk
                  have e2 : LF_NeverWord (K : Int) = nvW K := if_pos e1
                  rw [e1, e2] at HW1 HW2
                  rw [e2] at HWL
                  have HNF := Lib.hid (nv_facts hk2 hk17)
                  clear e1 e2 hkk hk
                  go_wp2_with fail
                  refine (HW1.out _).mono ?_
                  rintro e w15 ⟨uA, rfl, hr, hb⟩
                  have BE15 := Lib.hid (BE14.out.trans (hb.mono BE14.out.size))
                  have R23 := Lib.hid hr
                  clear hr hb
                  go_wp2_with fail
                  refine (HW2.out _).mono ?_
                  rintro e w16 ⟨uB, rfl, hr, hb⟩
                  have R24 := Lib.hid (R23.out.keep hb)
                  have BE16 := Lib.hid (BE15.out.trans (hb.mono BE15.out.size))
                  have R25 := Lib.hid hr
                  clear hr hb
                  go_wp2_with fail
                  refine (qSame_any _ _ (nvW K) _ R24.out.sl R25.out.sl HWL.out).mono ?_
                  rintro e w17 ⟨rfl, hb⟩
                  have R26 := Lib.hid (R24.out.keep hb)
                  have R27 := Lib.hid (R25.out.keep hb)
                  have BE17 := Lib.hid (BE16.out.trans (hb.mono BE16.out.size))
                  clear hb
                  have RA := Lib.hid (R26.out.mono BE14.out.size)
                  go_wp2
                  go_loopw [44, 45] (fun u i wr => ∃ n : Nat, n ≤ 4 ∧ i = .int .i64 (n : Int) ∧ Rd wr W.heap.size u (nvS K n) ∧ Below w17.heap.size w17 wr) (fun _ i _ => 4 - (intOf i).toNat)
                  case atStart => exact ⟨0, Nat.zero_le _, rfl, RA.out, Below.refl _ _⟩
                  case round =>
                    obtain ⟨n, hn, rfl, hr, hb⟩ := hrel
                    have KB := Lib.hid hb
                    have RN := Lib.hid hr
                    clear hb hr
                    by_cases hlt : n < 4
                    · have hni : (n : Int) < 4 := by omega
                      obtain ⟨p1, p2⟩ := HNF.out.2 n (by omega)
                      obtain ⟨p3, p4⟩ := HNF.out.2 (n + 1) (by omega)
                      have hd1 := (okR_dg p2).l40
                      have hd2 := (okR_dg p4).l40
                      skip
                      have eA : okA 2 (nvS K n) = true := okA_yes p2 hd2
                      skip
                      have eS : LF_AddReversed (nvS K n) 2 = nvS K (n + 1) := if_pos eA
                      have HQ1 := Lib.hid (fun v w h => impl_IsSymmetric v (nvS K n) 2 W.heap.size w h (by omega))
                      have HQ2 := Lib.hid (fun v w h => impl_AddReversed v (nvS K n) 2 W.heap.size w h (by omega))
                      simp only [VAL_IsSymmetric, OK_AddReversed] at HQ1 HQ2
                      rw [p2, p1, Bool.true_and] at HQ1
                      rw [eA, eS] at HQ2
                      clear p1 p2 p3 p4 eA eS
                      go_wp2_with fail
                      refine (HQ1.out _ _ RN.out).mono ?_
                      rintro e z1 ⟨rfl, hb⟩
                      have KB1 := Lib.hid (KB.out.trans (hb.mono KB.out.size))
                      have RN1 := Lib.hid (RN.out.keep hb)
                      clear hb
                      go_wp2_with fail
                      refine (HQ2.out _ _ RN1.out).mono ?_
                      rintro e z2 ⟨un, rfl, hr, hb⟩
                      have KB2 := Lib.hid (KB1.out.trans (hb.mono KB1.out.size))
                      have RN2 := Lib.hid (hr.mono (Nat.le_trans BE17.out.size KB1.out.size))
                      clear hb hr
                      go_wp2
                      go_roundw
                      case rel => exact ⟨n + 1, by omega, by go_num, RN2.out, KB2.out⟩
                      case measure => simp [intOf]; omega
                    · obtain rfl : n = 4 := by omega
                      have hn4 := HNF.out.1
                      rw [hn4] at RN
                      clear hn4
                      have BE18 := Lib.hid (BE17.out.trans (KB.out.mono BE17.out.size))
                      clear KB
                      by_cases h16 : K ≤ 16
                      · have e1 : okNv ((K : Int) + 1) = true := decide_eq_true (by omega)
                        have e2 : LF_NeverWord ((K : Int) + 1) = nvW (K + 1) := (if_pos e1).trans (by rw [show ((K : Int) + 1).toNat = K + 1 by omega])
                        rw [e1, e2] at HWN
                        have hwl : (nvW (K + 1)).length ≤ 2000000 := by unfold nvW; simp; omega
                        clear e1 e2
                        go_wp2_with fail
                        refine (HWN.out _).mono ?_
                        rintro e w19 ⟨uQ, rfl, hr, hb⟩
                        have R28 := Lib.hid (RN.out.keep hb)
                        have BE19 := Lib.hid (BE18.out.trans (hb.mono BE18.out.size))
                        have R29 := Lib.hid hr
                        clear hr hb
                        go_wp2_with fail
                        refine (qSame_any _ _ (nvW (K + 1)) _ R28.out.sl R29.out.sl hwl).mono ?_
                        rintro e w20 ⟨rfl, hb⟩
                        have R30 := Lib.hid (R28.out.keep hb)
                        have R31 := Lib.hid (R29.out.keep hb)
                        have BE20 := Lib.hid (BE19.out.trans (hb.mono BE19.out.size))
                        clear hb
                        go_wp2
                        go_ret
                        exact ⟨rfl, BE20.out⟩
                      · have e1 : okNv ((K : Int) + 1) = false := decide_eq_false (by omega)
                        rw [e1] at HWN
                        go_wp2_with fail
                        refine (HWN.out _).mono ?_
                        rintro e w19 ⟨uQ, rfl, hr, hb⟩
                        have R28 := Lib.hid (RN.out.keep hb)
                        have BE19 := Lib.hid (BE18.out.trans (hb.mono BE18.out.size))
                        have R29 := Lib.hid hr
                        clear hr hb
                        go_wp2
                        go_ret
                        exact ⟨rfl, BE19.out⟩
                · have e1 : okNv k = false := decide_eq_false hkk
                  have e2 : LF_NeverWord k = [] := if_neg (by rw [e1]; simp)
                  rw [e1, e2] at HW1 HW2
                  clear e1 e2
                  go_wp2_with fail
                  refine (HW1.out _).mono ?_
                  rintro e w15 ⟨uA, rfl, hr, hb⟩
                  have BE15 := Lib.hid (BE14.out.trans (hb.mono BE14.out.size))
                  have R23 := Lib.hid hr
                  clear hr hb
                  go_wp2_with fail
                  refine (HW2.out _).mono ?_
                  rintro e w16 ⟨uB, rfl, hr, hb⟩
                  have R24 := Lib.hid (R23.out.keep hb)
                  have BE16 := Lib.hid (BE15.out.trans (hb.mono BE15.out.size))
                  have R25 := Lib.hid hr
                  clear hr hb
                  go_wp2_with fail
                  refine (qSame_any _ _ [] _ R24.out.sl R25.out.sl (by simp)).mono ?_
                  rintro e w17 ⟨rfl, hb⟩
                  have R26 := Lib.hid (R24.out.keep hb)
                  have R27 := Lib.hid (R25.out.keep hb)
                  have BE17 := Lib.hid (BE16.out.trans (hb.mono BE16.out.size))
                  clear hb
                  go_wp2
                  go_ret
                  exact ⟨rfl, BE17.out⟩
    · skip
      simp only [if_true, Option.getD_some, Option.isSome_some] at HI2 HT2
      go_wp2_with fail
      refine (HI2.out _ R3.out).mono ?_
      rintro e w4 ⟨rfl, hb⟩
      have R6 := Lib.hid (R3.out.keep hb)
      have R7 := Lib.hid (R4.out.keep hb)
      have R8 := Lib.hid (R5.out.keep hb)
      have BE4 := Lib.hid (BE3.out.trans (hb.mono BE3.out.size))
      clear hb
      go_wp2_with fail
      refine (HT2.out _ R6.out).mono ?_
      rintro e w5 ⟨rfl, hb⟩
      have R9 := Lib.hid (R6.out.keep hb)
      have R10 := Lib.hid (R7.out.keep hb)
      have R11 := Lib.hid (R8.out.keep hb)
      have BE5 := Lib.hid (BE4.out.trans (hb.mono BE4.out.size))
      clear hb
      go_wp2_with fail
      refine (qSameRows_same _ _ vC vX _ _ _ _ R10.out R11.out (by rw [HVC.out, HVX.out]) (by rw [HVC.out]; exact HBD.out.1) (fun i => Nat.le_trans (HBD.out.2 i) (by omega))).mono ?_
      rintro e w6 ⟨rfl, hb⟩
      have R12 := Lib.hid (R10.out.keep hb)
      have R13 := Lib.hid (R11.out.keep hb)
      have BE6 := Lib.hid (BE5.out.trans (hb.mono BE5.out.size))
      clear hb
      obtain ⟨aC, cC, hCe, hca⟩ := R12.out.shape
      subst hCe
      have HCA := Lib.hid hca
      have hvl := HVC.out.trans HST.out
      obtain ⟨NV, hNV⟩ : ∃ NV, NV = vC.length := ⟨_, rfl⟩
      have HNV := Lib.hid hNV
      rw [← hNV] at hvl ⊢
      have hSi : (ST : Int) + 1 = (NV : Int) := by omega
      have HVE := Lib.hid hvl
      have hnv9 : NV ≤ 40001 := by omega
      clear hca hNV hvl
      go_wp2
      go_loopw [118] (fun i wr => ∃ j : Nat, j ≤ NV ∧ i = .int .i64 (j : Int) ∧ Below w6.heap.size w6 wr) (fun i _ => NV - (intOf i).toNat)
      case atStart => exact ⟨0, Nat.zero_le _, rfl, Below.refl _ _⟩
      case round =>
        obtain ⟨j, hj, rfl, hb⟩ := hrel
        have KB := Lib.hid hb
        clear hb
        by_cases hlt : j < NV
        · have hji : (j : Int) < (NV : Int) := by omega
          have hjv : j < vC.length := by rw [← HNV.out]; exact hlt
          rcases HCA.out with h0 | ⟨gv, rfl⟩
          · rw [h0] at hjv; simp at hjv
          obtain ⟨uj, huj⟩ : ∃ uj, vC[j]? = some uj := ⟨vC[j], List.getElem?_eq_getElem hjv⟩
          have zj := (R12.out.keep KB.out).cell huj
          have hrj := (R12.out.keep KB.out).at' j uj huj
          have hro : okR z (RW.getD j []) = true := HRF.out.ok j (by rw [HST.out, ← HVE.out]; exact hlt)
          have hr40 := (okR_dg hro).l40
          have RJ := Lib.hid (show Rd wr _ uj (RW.getD j []) from hrj)
          have HQ1 := Lib.hid (fun w B (h : Rd w B uj (RW.getD j [])) => impl_IsSymmetric uj (RW.getD j []) z B w h (by omega))
          simp only [VAL_IsSymmetric] at HQ1
          rw [hro, Bool.true_and] at HQ1
          by_cases hnx : j + 1 < NV
          · obtain ⟨n1, n2, n3⟩ := HRF.out.next j (by rw [HST.out, ← HVE.out]; exact hnx)
            have hnxi : (j : Int) + 1 < (NV : Int) := by omega
            rw [n1] at HQ1
            have hjs : ((j : Int) == (ST : Int)) = false := beq_no (by have := HVE.out; omega)
            have hjv2 : j + 1 < vC.length := by rw [← HNV.out]; exact hnx
            obtain ⟨uk, huk⟩ : ∃ uk, vC[j + 1]? = some uk := ⟨vC[j + 1], List.getElem?_eq_getElem hjv2⟩
            have eA : okA z (RW.getD j []) = true := okA_yes hro n3
            have eS : LF_AddReversed (RW.getD j []) z = RW.getD (j + 1) [] := by rw [show LF_AddReversed (RW.getD j []) z = rvA z (RW.getD j []) from if_pos eA, n2]
            have HQ2 := Lib.hid (fun w B (h : Rd w B uj (RW.getD j [])) => impl_AddReversed uj (RW.getD j []) z B w h (by omega))
            simp only [OK_AddReversed] at HQ2
            rw [eA, eS] at HQ2
            have hk40 : (RW.getD (j + 1) []).length ≤ 40 := by rw [n2]; exact n3
            have HUK := Lib.hid huk
            clear n1 n2 n3 eA eS huj hrj huk hro
            go_wp2_with fail
            refine (HQ1.out _ _ RJ.out).mono ?_
            rintro e z1 ⟨rfl, hb⟩
            have KB1 := Lib.hid (KB.out.trans (hb.mono KB.out.size))
            have RJ1 := Lib.hid (RJ.out.keep hb)
            clear hb
            go_wp2_with fail
            refine (HQ2.out _ _ RJ1.out).mono ?_
            rintro e z2 ⟨un, rfl, hr, hb⟩
            have KB2 := Lib.hid (KB1.out.trans (hb.mono KB1.out.size))
            have RU := Lib.hid hr
            clear hb hr zj
            have zk := (R12.out.keep KB2.out).cell HUK.out
            have RK := Lib.hid (show Rd z2 _ uk (RW.getD (j + 1) []) from (R12.out.keep KB2.out).at' (j + 1) uk HUK.out)
            go_wp2_with fail
            refine (qSame_any _ _ (RW.getD (j + 1) []) _ RU.out.sl RK.out.sl (by omega)).mono ?_
            rintro e z3 ⟨rfl, hb⟩
            have KB3 := Lib.hid (KB2.out.trans (hb.mono KB2.out.size))
            clear hb zk
            go_wp2
            go_roundw
            case rel => exact ⟨j + 1, by omega, by go_num, KB3.out⟩
            case measure => simp [intOf]; omega
          · have hjST : j = ST := by have := HVE.out; omega
            have hpj : palB (RW.getD j []) = true := by rw [hjST]; exact HPL.out.symm
            rw [hpj] at HQ1
            have hnxi : ¬ (j : Int) + 1 < (NV : Int) := by omega
            have hjs : ((j : Int) == (ST : Int)) = true := by rw [hjST]; simp
            clear hpj hjST huj hrj hro
            go_wp2_with fail
            refine (HQ1.out _ _ RJ.out).mono ?_
            rintro e z1 ⟨rfl, hb⟩
            have KB1 := Lib.hid (KB.out.trans (hb.mono KB.out.size))
            clear hb zj
            go_wp2
            go_roundw
            case rel => exact ⟨j + 1, by omega, by go_num, KB1.out⟩
            case measure => simp [intOf]; omega
        · obtain rfl : j = NV := by omega
          have BE7 := Lib.hid (BE6.out.trans (KB.out.mono BE6.out.size))
          obtain ⟨w7, hwr⟩ : ∃ w7, w7 = wr := ⟨_, rfl⟩
          subst hwr
          clear KB
          as_aux_lemma =>
            go_wp2_with fail
            refine (draw_StepsSpread _ xs1 _ (HS1.out.keep BE7.out) HL1.out).mono ?_
            rintro e y1 ⟨V, b, m, rfl, hm40, hb⟩
            have BE8 := Lib.hid (BE7.out.trans (hb.mono BE7.out.size))
            clear hb
            have HU1 := Lib.hid (fun w => impl_StepsSpread V b m w)
            have HU2 := Lib.hid (fun w => spec_StepsSpread V b m w)
            have HU3 := Lib.hid (fun w => impl_SlowestNumber V b m w)
            have HU4 := Lib.hid (fun w => spec_SlowestNumber V b m w)
            have HUL := Lib.hid (LF_StepsSpread_len V b m)
            simp only [OK_StepsSpread, VAL_SlowestNumber] at HU1 HU2 HU3 HU4
            rcases Bool.eq_false_or_eq_true (okSS V b m) with ho | ho
            · skip
              obtain ⟨hsp, hm0, hm1⟩ : okSp V b = true ∧ 0 ≤ m ∧ m ≤ 100 := by simpa [okSS, okM] using ho
              obtain ⟨k, rfl, hS⟩ := okSp_sp hsp
              obtain ⟨M, rfl⟩ : ∃ M : Nat, m = (M : Int) := ⟨m.toNat, by omega⟩
              have hF := spr_facts hS M
              have hse := (slw_end hS M).1
              have eL : LF_StepsSpread (k : Int) b (M : Int) = sprN k b M (cnN k b) := LFS_yes ho
              have e2 : SL2 (k : Int) b (M : Int) = (((slwN k b M (cnN k b)).2.toNat : Nat) : Int) := by unfold SL2; rw [if_pos ho]; show (slwN k b M (cnN k b)).2 = _; omega
              rw [ho, eL] at HU1 HU2
              rw [ho, e2] at HU3 HU4
              rw [eL] at HUL
              obtain ⟨s1, hs1⟩ : ∃ s1, s1 = SL1 (k : Int) b (M : Int) := ⟨_, rfl⟩
              rw [← hs1] at HU3 HU4
              obtain ⟨T, hT⟩ : ∃ T, T = (slwN k b M (cnN k b)).2.toNat := ⟨_, rfl⟩
              rw [← hT] at HU3 HU4 hF
              obtain ⟨L, hL⟩ : ∃ L, L = sprN k b M (cnN k b) := ⟨_, rfl⟩
              rw [← hL] at HU1 HU2 HUL hF
              have HF := Lib.hid hF
              have HSP := Lib.hid hS
              have hM40 : M ≤ 40 := by omega
              have hTM := hF.top.1
              have hb2 := hS.b2
              have hb16 := hS.b16
              have hk1 := hS.v1
              have hk14 := hS.v14
              clear ho hsp hF hse eL e2 hs1 hT hL hS hm0 hm1 hm40
              go_wp2_with fail
              refine (HU1.out _).mono ?_
              rintro e w9 ⟨uA, rfl, hr, hb⟩
              have BE9 := Lib.hid (BE8.out.trans (hb.mono BE8.out.size))
              have R14 := Lib.hid hr
              clear hr hb
              go_wp2_with fail
              refine (HU2.out _).mono ?_
              rintro e w10 ⟨uB, rfl, hr, hb⟩
              have R15 := Lib.hid (R14.out.keep hb)
              have BE10 := Lib.hid (BE9.out.trans (hb.mono BE9.out.size))
              have R16 := Lib.hid hr
              clear hr hb
              go_wp2_with fail
              refine (HU3.out _).mono ?_
              rintro e w11 ⟨rfl, hb⟩
              have R17 := Lib.hid (R15.out.keep hb)
              have R18 := Lib.hid (R16.out.keep hb)
              have BE11 := Lib.hid (BE10.out.trans (hb.mono BE10.out.size))
              clear hb
              go_wp2_with fail
              refine (HU4.out _).mono ?_
              rintro e w12 ⟨rfl, hb⟩
              have R19 := Lib.hid (R17.out.keep hb)
              have R20 := Lib.hid (R18.out.keep hb)
              have BE12 := Lib.hid (BE11.out.trans (hb.mono BE11.out.size))
              clear hb
              go_wp2_with fail
              refine (qSame_any _ _ L _ R19.out.sl R20.out.sl HUL.out).mono ?_
              rintro e w13 ⟨rfl, hb⟩
              have R21 := Lib.hid (R19.out.keep hb)
              have R22 := Lib.hid (R20.out.keep hb)
              have BE13 := Lib.hid (BE12.out.trans (hb.mono BE12.out.size))
              clear hb
              obtain ⟨gA, oA, cA, hAe, hgA, hzA⟩ := sl_liesN R21.out.sl (by rw [HF.out.len]; omega)
              subst hAe
              have HZA := Lib.hid (fun j (hj : j < M + 2) => hzA j (by rw [HF.out.len]; exact hj))
              have hll := HF.out.len
              rw [hll]
              obtain ⟨NL, hNL⟩ : ∃ NL, NL = M + 2 := ⟨_, rfl⟩
              have HNL := Lib.hid hNL
              rw [← hNL]
              have RA := Lib.hid (show Rd _ _ (.slice (some ⟨gA, oA, none⟩) NL cA) L from by have h := R21.out; rw [hll, ← hNL] at h; exact h)
              have hNLi : (M : Int) + 2 = (NL : Int) := by omega
              clear hzA hll hNL
              go_wp2
              go_loopw [35, 36] (fun q i wr => ∃ (j : Nat) (A : Int), j + 1 ≤ k ∧ i = .int .i64 ((j : Int) + 1) ∧ q = .int .i64 A ∧ Hid (A = (b - 1) * b ^ j) ∧ Below w13.heap.size w13 wr) (fun _ i _ => k + 1 - (intOf i).toNat)
              case atStart => exact ⟨0, b - 1, hk1, by go_num, by go_num, Lib.hid (by simp), Below.refl _ _⟩
              case round =>
                obtain ⟨j, A, hj, rfl, rfl, HA, hb⟩ := hrel
                have KB := Lib.hid hb
                clear hb
                by_cases hlt : j + 1 < k
                · have hji : (j : Int) + 1 < (k : Int) := by omega
                  obtain ⟨q1, q2⟩ := sp_le HSP.out (i := j + 1) (by omega)
                  obtain ⟨A2, hA2⟩ : ∃ A2, A2 = (b - 1) * b ^ (j + 1) := ⟨_, rfl⟩
                  have hP : A * b = A2 := by rw [hA2, HA.out, Int.pow_succ, Int.mul_assoc]
                  rw [← hA2] at q1 q2
                  have HA2 := Lib.hid hA2
                  clear hA2
                  go_wp2
                  go_roundw
                  case rel => exact ⟨j + 1, A2, by omega, by go_num, by first | rfl | go_num, HA2, KB.out⟩
                  case measure => simp [intOf]; omega
                · obtain rfl : k = j + 1 := by omega
                  have R23 := Lib.hid (RA.out.keep KB.out)
                  have BE14 := Lib.hid (BE13.out.trans (KB.out.mono BE13.out.size))
                  obtain ⟨w14, hwr⟩ : ∃ w14, w14 = wr := ⟨_, rfl⟩
                  subst hwr
                  clear KB
                  have HAS := Lib.hid (show A = L.sum by rw [HA.out, HF.out.sum]; rfl)
                  have hji : ¬ (j : Int) + 1 < ((j + 1 : Nat) : Int) := by omega
                  skip
                  go_wp2
                  go_loopw [37, 38] (fun l i wr => ∃ (j : Nat) (la : Int), j ≤ M + 1 ∧ i = .int .i64 (j : Int) ∧ l = .int .i64 la ∧ ((j ≤ T ∧ -1 ≤ la ∧ la < (j : Int)) ∨ (T < j ∧ la = (T : Int))) ∧ Below w14.heap.size w14 wr) (fun _ i _ => M + 1 - (intOf i).toNat)
                  case atStart => exact ⟨0, -1, Nat.zero_le _, rfl, rfl, .inl ⟨Nat.zero_le _, by omega, by omega⟩, Below.refl _ _⟩
                  case round =>
                    obtain ⟨q, la, hq, rfl, rfl, hla, hb⟩ := hrel
                    have KB := Lib.hid hb
                    clear hb
                    by_cases hlt : q ≤ M
                    · have hqi : (q : Int) ≤ (M : Int) := by omega
                      have hqN : (q : Int) < (NL : Int) := by omega
                      obtain ⟨gB, oB, cB, hBe, hgB, hzB⟩ := sl_liesN (R23.out.keep KB.out).sl (by rw [HF.out.len]; omega)
                      have hae : gA = gB ∧ oA = oB := by injection hBe with h1; injection h1 with h2; injection h2 with h3 h4; exact ⟨h3, h4⟩
                      obtain ⟨rfl, rfl⟩ := hae
                      have zq := hzB q (by rw [HF.out.len]; omega)
                      have htop := HF.out.top.2
                      have hnone := HF.out.none q
                      obtain ⟨x, hx⟩ : ∃ x, x = L.getD q 0 := ⟨_, rfl⟩
                      rw [← hx] at zq hnone
                      have HTP := Lib.hid (show q = T → 0 < x from fun e => by rw [hx, e]; exact htop)
                      clear hBe hzB hx htop
                      by_cases h0 : 0 < x
                      · skip
                        have HNX := Lib.hid (show (q + 1 ≤ T ∧ -1 ≤ (q : Int) ∧ (q : Int) < ((q + 1 : Nat) : Int)) ∨ (T < q + 1 ∧ (q : Int) = (T : Int)) from by by_cases e : q < T; exact .inl ⟨by omega, by omega, by omega⟩; exact .inr ⟨by omega, by have := hnone; by_cases e2 : T < q; exact absurd h0 (hnone e2 hlt); omega⟩)
                        clear hla hnone
                        go_wp2
                        go_roundw
                        case rel => exact ⟨q + 1, _, by omega, by go_num, rfl, HNX.out, KB.out⟩
                        case measure => simp [intOf]; omega
                      · skip
                        have HNX := Lib.hid (show (q + 1 ≤ T ∧ -1 ≤ la ∧ la < ((q + 1 : Nat) : Int)) ∨ (T < q + 1 ∧ la = (T : Int)) from by rcases hla with ⟨c1, c2, c3⟩ | ⟨c1, c2⟩; (by_cases e : q = T; exact absurd (HTP.out e) h0; exact .inl ⟨by omega, by omega, by omega⟩); exact .inr ⟨by omega, c2⟩)
                        clear hla hnone
                        go_wp2
                        go_roundw
                        case rel => exact ⟨q + 1, _, by omega, by go_num, rfl, HNX.out, KB.out⟩
                        case measure => simp [intOf]; omega
                    · obtain rfl : la = (T : Int) := by omega
                      obtain rfl : q = M + 1 := by omega
                      have hqi : ¬ ((M + 1 : Nat) : Int) ≤ (M : Int) := by omega
                      clear hla
                      have R24 := Lib.hid (R23.out.keep KB.out)
                      have BE15 := Lib.hid (BE14.out.trans (KB.out.mono BE14.out.size))
                      obtain ⟨w15, hwr⟩ : ∃ w15, w15 = wr := ⟨_, rfl⟩
                      subst hwr
                      clear KB
                      have HSM := Lib.hid (qSum_mid _ L _ R24.out.sl (by rw [HF.out.len]; omega) HF.out.bd)
                      rw [← HAS.out] at HSM
                      go_wp2_with fail
                      refine (HSM.out).mono ?_
                      rintro e w16 ⟨rfl, hb⟩
                      have R25 := Lib.hid (R24.out.keep hb)
                      have BE16 := Lib.hid (BE15.out.trans (hb.mono BE15.out.size))
                      clear hb
                      as_aux_lemma =>
                        go_wp2_with fail
                        refine (draw_NeverWord _ xs1 _ (HS1.out.keep BE16.out) HL1.out).mono ?_
                        rintro e y2 ⟨k, rfl, hk, hb⟩
                        have BE17 := Lib.hid (BE16.out.trans (hb.mono BE16.out.size))
                        clear hb
                        have HW1 := Lib.hid (fun w => impl_NeverWord k w)
                        have HW2 := Lib.hid (fun w => spec_NeverWord k w)
                        have HWL := Lib.hid (LF_NeverWord_len k)
                        have HWN := Lib.hid (fun w => impl_NeverWord (k + 1) w)
                        simp only [OK_NeverWord] at HW1 HW2 HWN
                        by_cases hkk : 2 ≤ k ∧ k ≤ 17
                        · obtain ⟨K, rfl⟩ : ∃ K : Nat, k = (K : Int) := ⟨k.toNat, by omega⟩
                          have hk2 : 2 ≤ K := by omega
                          have hk17 : K ≤ 17 := by omega
                          have e1 : okNv (K : Int) = true := decide_eq_true hkk
                          have e2 : LF_NeverWord (K : Int) = nvW K := if_pos e1
                          rw [e1, e2] at HW1 HW2
                          rw [e2] at HWL
                          have HNF := Lib.hid (nv_facts hk2 hk17)
                          clear e1 e2 hkk hk
                          go_wp2_with fail
                          refine (HW1.out _).mono ?_
                          rintro e w18 ⟨uA, rfl, hr, hb⟩
                          have BE18 := Lib.hid (BE17.out.trans (hb.mono BE17.out.size))
                          have R26 := Lib.hid hr
                          clear hr hb
                          go_wp2_with fail
                          refine (HW2.out _).mono ?_
                          rintro e w19 ⟨uB, rfl, hr, hb⟩
                          have R27 := Lib.hid (R26.out.keep hb)
                          have BE19 := Lib.hid (BE18.out.trans (hb.mono BE18.out.size))
                          have R28 := Lib.hid hr
                          clear hr hb
                          go_wp2_with fail
                          refine (qSame_any _ _ (nvW K) _ R27.out.sl R28.out.sl HWL.out).mono ?_
                          rintro e w20 ⟨rfl, hb⟩
                          have R29 := Lib.hid (R27.out.keep hb)
                          have R30 := Lib.hid (R28.out.keep hb)
                          have BE20 := Lib.hid (BE19.out.trans (hb.mono BE19.out.size))
                          clear hb
                          have RA := Lib.hid (R29.out.mono BE17.out.size)
                          go_wp2
                          go_loopw [44, 45] (fun u i wr => ∃ n : Nat, n ≤ 4 ∧ i = .int .i64 (n : Int) ∧ Rd wr W.heap.size u (nvS K n) ∧ Below w20.heap.size w20 wr) (fun _ i _ => 4 - (intOf i).toNat)
                          case atStart => exact ⟨0, Nat.zero_le _, rfl, RA.out, Below.refl _ _⟩
                          case round =>
                            obtain ⟨n, hn, rfl, hr, hb⟩ := hrel
                            have KB := Lib.hid hb
                            have RN := Lib.hid hr
                            clear hb hr
                            by_cases hlt : n < 4
                            · have hni : (n : Int) < 4 := by omega
                              obtain ⟨p1, p2⟩ := HNF.out.2 n (by omega)
                              obtain ⟨p3, p4⟩ := HNF.out.2 (n + 1) (by omega)
                              have hd1 := (okR_dg p2).l40
                              have hd2 := (okR_dg p4).l40
                              skip
                              have eA : okA 2 (nvS K n) = true := okA_yes p2 hd2
                              skip
                              have eS : LF_AddReversed (nvS K n) 2 = nvS K (n + 1) := if_pos eA
                              have HQ1 := Lib.hid (fun v w h => impl_IsSymmetric v (nvS K n) 2 W.heap.size w h (by omega))
                              have HQ2 := Lib.hid (fun v w h => impl_AddReversed v (nvS K n) 2 W.heap.size w h (by omega))
                              simp only [VAL_IsSymmetric, OK_AddReversed] at HQ1 HQ2
                              rw [p2, p1, Bool.true_and] at HQ1
                              rw [eA, eS] at HQ2
                              clear p1 p2 p3 p4 eA eS
                              go_wp2_with fail
                              refine (HQ1.out _ _ RN.out).mono ?_
                              rintro e z1 ⟨rfl, hb⟩
                              have KB1 := Lib.hid (KB.out.trans (hb.mono KB.out.size))
                              have RN1 := Lib.hid (RN.out.keep hb)
                              clear hb
                              go_wp2_with fail
                              refine (HQ2.out _ _ RN1.out).mono ?_
                              rintro e z2 ⟨un, rfl, hr, hb⟩
                              have KB2 := Lib.hid (KB1.out.trans (hb.mono KB1.out.size))
                              have RN2 := Lib.hid (hr.mono (Nat.le_trans BE20.out.size KB1.out.size))
                              clear hb hr
                              go_wp2
                              go_roundw
                              case rel => exact ⟨n + 1, by omega, by go_num, RN2.out, KB2.out⟩
                              case measure => simp [intOf]; omega
                            · obtain rfl : n = 4 := by omega
                              have hn4 := HNF.out.1
                              rw [hn4] at RN
                              clear hn4
                              have BE21 := Lib.hid (BE20.out.trans (KB.out.mono BE20.out.size))
                              clear KB
                              by_cases h16 : K ≤ 16
                              · have e1 : okNv ((K : Int) + 1) = true := decide_eq_true (by omega)
                                have e2 : LF_NeverWord ((K : Int) + 1) = nvW (K + 1) := (if_pos e1).trans (by rw [show ((K : Int) + 1).toNat = K + 1 by omega])
                                rw [e1, e2] at HWN
                                have hwl : (nvW (K + 1)).length ≤ 2000000 := by unfold nvW; simp; omega
                                clear e1 e2
                                go_wp2_with fail
                                refine (HWN.out _).mono ?_
                                rintro e w22 ⟨uQ, rfl, hr, hb⟩
                                have R31 := Lib.hid (RN.out.keep hb)
                                have BE22 := Lib.hid (BE21.out.trans (hb.mono BE21.out.size))
                                have R32 := Lib.hid hr
                                clear hr hb
                                go_wp2_with fail
                                refine (qSame_any _ _ (nvW (K + 1)) _ R31.out.sl R32.out.sl hwl).mono ?_
                                rintro e w23 ⟨rfl, hb⟩
                                have R33 := Lib.hid (R31.out.keep hb)
                                have R34 := Lib.hid (R32.out.keep hb)
                                have BE23 := Lib.hid (BE22.out.trans (hb.mono BE22.out.size))
                                clear hb
                                go_wp2
                                go_ret
                                exact ⟨rfl, BE23.out⟩
                              · have e1 : okNv ((K : Int) + 1) = false := decide_eq_false (by omega)
                                rw [e1] at HWN
                                go_wp2_with fail
                                refine (HWN.out _).mono ?_
                                rintro e w22 ⟨uQ, rfl, hr, hb⟩
                                have R31 := Lib.hid (RN.out.keep hb)
                                have BE22 := Lib.hid (BE21.out.trans (hb.mono BE21.out.size))
                                have R32 := Lib.hid hr
                                clear hr hb
                                go_wp2
                                go_ret
                                exact ⟨rfl, BE22.out⟩
                        · have e1 : okNv k = false := decide_eq_false hkk
                          have e2 : LF_NeverWord k = [] := if_neg (by rw [e1]; simp)
                          rw [e1, e2] at HW1 HW2
                          clear e1 e2
                          go_wp2_with fail
                          refine (HW1.out _).mono ?_
                          rintro e w18 ⟨uA, rfl, hr, hb⟩
                          have BE18 := Lib.hid (BE17.out.trans (hb.mono BE17.out.size))
                          have R26 := Lib.hid hr
                          clear hr hb
                          go_wp2_with fail
                          refine (HW2.out _).mono ?_
                          rintro e w19 ⟨uB, rfl, hr, hb⟩
                          have R27 := Lib.hid (R26.out.keep hb)
                          have BE19 := Lib.hid (BE18.out.trans (hb.mono BE18.out.size))
                          have R28 := Lib.hid hr
                          clear hr hb
                          go_wp2_with fail
                          refine (qSame_any _ _ [] _ R27.out.sl R28.out.sl (by simp)).mono ?_
                          rintro e w20 ⟨rfl, hb⟩
                          have R29 := Lib.hid (R27.out.keep hb)
                          have R30 := Lib.hid (R28.out.keep hb)
                          have BE20 := Lib.hid (BE19.out.trans (hb.mono BE19.out.size))
                          clear hb
                          go_wp2
                          go_ret
                          exact ⟨rfl, BE20.out⟩
            · skip
              have eL : LF_StepsSpread V b m = [] := LFS_no ho
              rw [ho, eL] at HU1 HU2
              rw [ho] at HU3 HU4
              obtain ⟨s1, hs1⟩ : ∃ s1, s1 = SL1 V b m := ⟨_, rfl⟩
              obtain ⟨s2, hs2⟩ : ∃ s2, s2 = SL2 V b m := ⟨_, rfl⟩
              rw [← hs1, ← hs2] at HU3 HU4
              clear ho eL hs1 hs2
              go_wp2_with fail
              refine (HU1.out _).mono ?_
              rintro e w9 ⟨uA, rfl, hr, hb⟩
              have BE9 := Lib.hid (BE8.out.trans (hb.mono BE8.out.size))
              have R14 := Lib.hid hr
              clear hr hb
              go_wp2_with fail
              refine (HU2.out _).mono ?_
              rintro e w10 ⟨uB, rfl, hr, hb⟩
              have R15 := Lib.hid (R14.out.keep hb)
              have BE10 := Lib.hid (BE9.out.trans (hb.mono BE9.out.size))
              have R16 := Lib.hid hr
              clear hr hb
              go_wp2_with fail
              refine (HU3.out _).mono ?_
              rintro e w11 ⟨rfl, hb⟩
              have R17 := Lib.hid (R15.out.keep hb)
              have R18 := Lib.hid (R16.out.keep hb)
              have BE11 := Lib.hid (BE10.out.trans (hb.mono BE10.out.size))
              clear hb
              go_wp2_with fail
              refine (HU4.out _).mono ?_
              rintro e w12 ⟨rfl, hb⟩
              have R19 := Lib.hid (R17.out.keep hb)
              have R20 := Lib.hid (R18.out.keep hb)
              have BE12 := Lib.hid (BE11.out.trans (hb.mono BE11.out.size))
              clear hb
              go_wp2_with fail
              refine (qSame_any _ _ [] _ R19.out.sl R20.out.sl (by simp)).mono ?_
              rintro e w13 ⟨rfl, hb⟩
              have R21 := Lib.hid (R19.out.keep hb)
              have R22 := Lib.hid (R20.out.keep hb)
              have BE13 := Lib.hid (BE12.out.trans (hb.mono BE12.out.size))
              clear hb
              as_aux_lemma =>
                go_wp2_with fail
                refine (draw_NeverWord _ xs1 _ (HS1.out.keep BE13.out) HL1.out).mono ?_
                rintro e y2 ⟨k, rfl, hk, hb⟩
                have BE14 := Lib.hid (BE13.out.trans (hb.mono BE13.out.size))
                clear hb
                have HW1 := Lib.hid (fun w => impl_NeverWord k w)
                have HW2 := Lib.hid (fun w => spec_NeverWord k w)
                have HWL := Lib.hid (LF_NeverWord_len k)
                have HWN := Lib.hid (fun w => impl_NeverWord (k + 1) w)
                simp only [OK_NeverWord] at HW1 HW2 HWN
                by_cases hkk : 2 ≤ k ∧ k ≤ 17
                · obtain ⟨K, rfl⟩ : ∃ K : Nat, k = (K : Int) := ⟨k.toNat, by omega⟩
                  have hk2 : 2 ≤ K := by omega
                  have hk17 : K ≤ 17 := by omega
                  have e1 : okNv (K : Int) = true := decide_eq_true hkk
                  have e2 : LF_NeverWord (K : Int) = nvW K := if_pos e1
                  rw [e1, e2] at HW1 HW2
                  rw [e2] at HWL
                  have HNF := Lib.hid (nv_facts hk2 hk17)
                  clear e1 e2 hkk hk
                  go_wp2_with fail
                  refine (HW1.out _).mono ?_
                  rintro e w15 ⟨uA, rfl, hr, hb⟩
                  have BE15 := Lib.hid (BE14.out.trans (hb.mono BE14.out.size))
                  have R23 := Lib.hid hr
                  clear hr hb
                  go_wp2_with fail
                  refine (HW2.out _).mono ?_
                  rintro e w16 ⟨uB, rfl, hr, hb⟩
                  have R24 := Lib.hid (R23.out.keep hb)
                  have BE16 := Lib.hid (BE15.out.trans (hb.mono BE15.out.size))
                  have R25 := Lib.hid hr
                  clear hr hb
                  go_wp2_with fail
                  refine (qSame_any _ _ (nvW K) _ R24.out.sl R25.out.sl HWL.out).mono ?_
                  rintro e w17 ⟨rfl, hb⟩
                  have R26 := Lib.hid (R24.out.keep hb)
                  have R27 := Lib.hid (R25.out.keep hb)
                  have BE17 := Lib.hid (BE16.out.trans (hb.mono BE16.out.size))
                  clear hb
                  have RA := Lib.hid (R26.out.mono BE14.out.size)
                  go_wp2
                  go_loopw [44, 45] (fun u i wr => ∃ n : Nat, n ≤ 4 ∧ i = .int .i64 (n : Int) ∧ Rd wr W.heap.size u (nvS K n) ∧ Below w17.heap.size w17 wr) (fun _ i _ => 4 - (intOf i).toNat)
                  case atStart => exact ⟨0, Nat.zero_le _, rfl, RA.out, Below.refl _ _⟩
                  case round =>
                    obtain ⟨n, hn, rfl, hr, hb⟩ := hrel
                    have KB := Lib.hid hb
                    have RN := Lib.hid hr
                    clear hb hr
                    by_cases hlt : n < 4
                    · have hni : (n : Int) < 4 := by omega
                      obtain ⟨p1, p2⟩ := HNF.out.2 n (by omega)
                      obtain ⟨p3, p4⟩ := HNF.out.2 (n + 1) (by omega)
                      have hd1 := (okR_dg p2).l40
                      have hd2 := (okR_dg p4).l40
                      skip
                      have eA : okA 2 (nvS K n) = true := okA_yes p2 hd2
                      skip
                      have eS : LF_AddReversed (nvS K n) 2 = nvS K (n + 1) := if_pos eA
                      have HQ1 := Lib.hid (fun v w h => impl_IsSymmetric v (nvS K n) 2 W.heap.size w h (by omega))
                      have HQ2 := Lib.hid (fun v w h => impl_AddReversed v (nvS K n) 2 W.heap.size w h (by omega))
                      simp only [VAL_IsSymmetric, OK_AddReversed] at HQ1 HQ2
                      rw [p2, p1, Bool.true_and] at HQ1
                      rw [eA, eS] at HQ2
                      clear p1 p2 p3 p4 eA eS
                      go_wp2_with fail
                      refine (HQ1.out _ _ RN.out).mono ?_
                      rintro e z1 ⟨rfl, hb⟩
                      have KB1 := Lib.hid (KB.out.trans (hb.mono KB.out.size))
                      have RN1 := Lib.hid (RN.out.keep hb)
                      clear hb
                      go_wp2_with fail
                      refine (HQ2.out _ _ RN1.out).mono ?_
                      rintro e z2 ⟨un, rfl, hr, hb⟩
                      have KB2 := Lib.hid (KB1.out.trans (hb.mono KB1.out.size))
                      have RN2 := Lib.hid (hr.mono (Nat.le_trans BE17.out.size KB1.out.size))
                      clear hb hr
                      go_wp2
                      go_roundw
                      case rel => exact ⟨n + 1, by omega, by go_num, RN2.out, KB2.out⟩
                      case measure => simp [intOf]; omega
                    · obtain rfl : n = 4 := by omega
                      have hn4 := HNF.out.1
                      rw [hn4] at RN
                      clear hn4
                      have BE18 := Lib.hid (BE17.out.trans (KB.out.mono BE17.out.size))
                      clear KB
                      by_cases h16 : K ≤ 16
                      · have e1 : okNv ((K : Int) + 1) = true := decide_eq_true (by omega)
                        have e2 : LF_NeverWord ((K : Int) + 1) = nvW (K + 1) := (if_pos e1).trans (by rw [show ((K : Int) + 1).toNat = K + 1 by omega])
                        rw [e1, e2] at HWN
                        have hwl : (nvW (K + 1)).length ≤ 2000000 := by unfold nvW; simp; omega
                        clear e1 e2
                        go_wp2_with fail
                        refine (HWN.out _).mono ?_
                        rintro e w19 ⟨uQ, rfl, hr, hb⟩
                        have R28 := Lib.hid (RN.out.keep hb)
                        have BE19 := Lib.hid (BE18.out.trans (hb.mono BE18.out.size))
                        have R29 := Lib.hid hr
                        clear hr hb
                        go_wp2_with fail
                        refine (qSame_any _ _ (nvW (K + 1)) _ R28.out.sl R29.out.sl hwl).mono ?_
                        rintro e w20 ⟨rfl, hb⟩
                        have R30 := Lib.hid (R28.out.keep hb)
                        have R31 := Lib.hid (R29.out.keep hb)
                        have BE20 := Lib.hid (BE19.out.trans (hb.mono BE19.out.size))
                        clear hb
                        go_wp2
                        go_ret
                        exact ⟨rfl, BE20.out⟩
                      · have e1 : okNv ((K : Int) + 1) = false := decide_eq_false (by omega)
                        rw [e1] at HWN
                        go_wp2_with fail
                        refine (HWN.out _).mono ?_
                        rintro e w19 ⟨uQ, rfl, hr, hb⟩
                        have R28 := Lib.hid (RN.out.keep hb)
                        have BE19 := Lib.hid (BE18.out.trans (hb.mono BE18.out.size))
                        have R29 := Lib.hid hr
                        clear hr hb
                        go_wp2
                        go_ret
                        exact ⟨rfl, BE19.out⟩
                · have e1 : okNv k = false := decide_eq_false hkk
                  have e2 : LF_NeverWord k = [] := if_neg (by rw [e1]; simp)
                  rw [e1, e2] at HW1 HW2
                  clear e1 e2
                  go_wp2_with fail
                  refine (HW1.out _).mono ?_
                  rintro e w15 ⟨uA, rfl, hr, hb⟩
                  have BE15 := Lib.hid (BE14.out.trans (hb.mono BE14.out.size))
                  have R23 := Lib.hid hr
                  clear hr hb
                  go_wp2_with fail
                  refine (HW2.out _).mono ?_
                  rintro e w16 ⟨uB, rfl, hr, hb⟩
                  have R24 := Lib.hid (R23.out.keep hb)
                  have BE16 := Lib.hid (BE15.out.trans (hb.mono BE15.out.size))
                  have R25 := Lib.hid hr
                  clear hr hb
                  go_wp2_with fail
                  refine (qSame_any _ _ [] _ R24.out.sl R25.out.sl (by simp)).mono ?_
                  rintro e w17 ⟨rfl, hb⟩
                  have R26 := Lib.hid (R24.out.keep hb)
                  have R27 := Lib.hid (R25.out.keep hb)
                  have BE17 := Lib.hid (BE16.out.trans (hb.mono BE16.out.size))
                  clear hb
                  go_wp2
                  go_ret
                  exact ⟨rfl, BE17.out⟩
  · skip
    have eL : LF_AddedRun ls z mm = [] := LFR_no ho
    have eS : R_Steps ls z mm = none := by unfold R_Steps; rw [if_neg]; rintro ⟨c1, c2⟩; rw [okAR_yes c1 c2] at ho; cases ho
    rw [ho, eL] at HI1 HT1
    rw [eS] at HI2 HT2
    rw [eL] at HBD
    simp only [Option.getD_none, Option.isSome_none] at HI2 HT2
    clear ho eL eS
    go_wp2_with fail
    refine (HI1.out _ R0.out).mono ?_
    rintro e w2 ⟨uC, vC, rfl, hll, hb⟩
    have R1 := Lib.hid (R0.out.keep hb)
    have BE2 := Lib.hid (BE1.out.trans (hb.mono BE1.out.size))
    have R2 := Lib.hid hll.f
    have HVC := Lib.hid hll.len
    clear hll hb
    go_wp2_with fail
    refine (HT1.out _ R1.out).mono ?_
    rintro e w3 ⟨uX, vX, rfl, hll, hb⟩
    have R3 := Lib.hid (R1.out.keep hb)
    have R4 := Lib.hid (R2.out.keep hb)
    have BE3 := Lib.hid (BE2.out.trans (hb.mono BE2.out.size))
    have R5 := Lib.hid hll.f
    have HVX := Lib.hid hll.len
    clear hll hb
    go_wp2_with fail
    refine (HI2.out _ R3.out).mono ?_
    rintro e w4 ⟨rfl, hb⟩
    have R6 := Lib.hid (R3.out.keep hb)
    have R7 := Lib.hid (R4.out.keep hb)
    have R8 := Lib.hid (R5.out.keep hb)
    have BE4 := Lib.hid (BE3.out.trans (hb.mono BE3.out.size))
    clear hb
    go_wp2_with fail
    refine (HT2.out _ R6.out).mono ?_
    rintro e w5 ⟨rfl, hb⟩
    have R9 := Lib.hid (R6.out.keep hb)
    have R10 := Lib.hid (R7.out.keep hb)
    have R11 := Lib.hid (R8.out.keep hb)
    have BE5 := Lib.hid (BE4.out.trans (hb.mono BE4.out.size))
    clear hb
    go_wp2_with fail
    refine (qSameRows_same _ _ vC vX _ _ _ _ R10.out R11.out (by rw [HVC.out, HVX.out]) (by rw [HVC.out]; exact HBD.out.1) (fun i => Nat.le_trans (HBD.out.2 i) (by omega))).mono ?_
    rintro e w6 ⟨rfl, hb⟩
    have R12 := Lib.hid (R10.out.keep hb)
    have R13 := Lib.hid (R11.out.keep hb)
    have BE6 := Lib.hid (BE5.out.trans (hb.mono BE5.out.size))
    clear hb
    as_aux_lemma =>
      go_wp2_with fail
      refine (draw_StepsSpread _ xs1 _ (HS1.out.keep BE6.out) HL1.out).mono ?_
      rintro e y1 ⟨V, b, m, rfl, hm40, hb⟩
      have BE7 := Lib.hid (BE6.out.trans (hb.mono BE6.out.size))
      clear hb
      have HU1 := Lib.hid (fun w => impl_StepsSpread V b m w)
      have HU2 := Lib.hid (fun w => spec_StepsSpread V b m w)
      have HU3 := Lib.hid (fun w => impl_SlowestNumber V b m w)
      have HU4 := Lib.hid (fun w => spec_SlowestNumber V b m w)
      have HUL := Lib.hid (LF_StepsSpread_len V b m)
      simp only [OK_StepsSpread, VAL_SlowestNumber] at HU1 HU2 HU3 HU4
      rcases Bool.eq_false_or_eq_true (okSS V b m) with ho | ho
      · skip
        obtain ⟨hsp, hm0, hm1⟩ : okSp V b = true ∧ 0 ≤ m ∧ m ≤ 100 := by simpa [okSS, okM] using ho
        obtain ⟨k, rfl, hS⟩ := okSp_sp hsp
        obtain ⟨M, rfl⟩ : ∃ M : Nat, m = (M : Int) := ⟨m.toNat, by omega⟩
        have hF := spr_facts hS M
        have hse := (slw_end hS M).1
        have eL : LF_StepsSpread (k : Int) b (M : Int) = sprN k b M (cnN k b) := LFS_yes ho
        have e2 : SL2 (k : Int) b (M : Int) = (((slwN k b M (cnN k b)).2.toNat : Nat) : Int) := by unfold SL2; rw [if_pos ho]; show (slwN k b M (cnN k b)).2 = _; omega
        rw [ho, eL] at HU1 HU2
        rw [ho, e2] at HU3 HU4
        rw [eL] at HUL
        obtain ⟨s1, hs1⟩ : ∃ s1, s1 = SL1 (k : Int) b (M : Int) := ⟨_, rfl⟩
        rw [← hs1] at HU3 HU4
        obtain ⟨T, hT⟩ : ∃ T, T = (slwN k b M (cnN k b)).2.toNat := ⟨_, rfl⟩
        rw [← hT] at HU3 HU4 hF
        obtain ⟨L, hL⟩ : ∃ L, L = sprN k b M (cnN k b) := ⟨_, rfl⟩
        rw [← hL] at HU1 HU2 HUL hF
        have HF := Lib.hid hF
        have HSP := Lib.hid hS
        have hM40 : M ≤ 40 := by omega
        have hTM := hF.top.1
        have hb2 := hS.b2
        have hb16 := hS.b16
        have hk1 := hS.v1
        have hk14 := hS.v14
        clear ho hsp hF hse eL e2 hs1 hT hL hS hm0 hm1 hm40
        go_wp2_with fail
        refine (HU1.out _).mono ?_
        rintro e w8 ⟨uA, rfl, hr, hb⟩
        have BE8 := Lib.hid (BE7.out.trans (hb.mono BE7.out.size))
        have R14 := Lib.hid hr
        clear hr hb
        go_wp2_with fail
        refine (HU2.out _).mono ?_
        rintro e w9 ⟨uB, rfl, hr, hb⟩
        have R15 := Lib.hid (R14.out.keep hb)
        have BE9 := Lib.hid (BE8.out.trans (hb.mono BE8.out.size))
        have R16 := Lib.hid hr
        clear hr hb
        go_wp2_with fail
        refine (HU3.out _).mono ?_
        rintro e w10 ⟨rfl, hb⟩
        have R17 := Lib.hid (R15.out.keep hb)
        have R18 := Lib.hid (R16.out.keep hb)
        have BE10 := Lib.hid (BE9.out.trans (hb.mono BE9.out.size))
        clear hb
        go_wp2_with fail
        refine (HU4.out _).mono ?_
        rintro e w11 ⟨rfl, hb⟩
        have R19 := Lib.hid (R17.out.keep hb)
        have R20 := Lib.hid (R18.out.keep hb)
        have BE11 := Lib.hid (BE10.out.trans (hb.mono BE10.out.size))
        clear hb
        go_wp2_with fail
        refine (qSame_any _ _ L _ R19.out.sl R20.out.sl HUL.out).mono ?_
        rintro e w12 ⟨rfl, hb⟩
        have R21 := Lib.hid (R19.out.keep hb)
        have R22 := Lib.hid (R20.out.keep hb)
        have BE12 := Lib.hid (BE11.out.trans (hb.mono BE11.out.size))
        clear hb
        obtain ⟨gA, oA, cA, hAe, hgA, hzA⟩ := sl_liesN R21.out.sl (by rw [HF.out.len]; omega)
        subst hAe
        have HZA := Lib.hid (fun j (hj : j < M + 2) => hzA j (by rw [HF.out.len]; exact hj))
        have hll := HF.out.len
        rw [hll]
        obtain ⟨NL, hNL⟩ : ∃ NL, NL = M + 2 := ⟨_, rfl⟩
        have HNL := Lib.hid hNL
        rw [← hNL]
        have RA := Lib.hid (show Rd _ _ (.slice (some ⟨gA, oA, none⟩) NL cA) L from by have h := R21.out; rw [hll, ← hNL] at h; exact h)
        have hNLi : (M : Int) + 2 = (NL : Int) := by omega
        clear hzA hll hNL
        go_wp2
        go_loopw [35, 36] (fun q i wr => ∃ (j : Nat) (A : Int), j + 1 ≤ k ∧ i = .int .i64 ((j : Int) + 1) ∧ q = .int .i64 A ∧ Hid (A = (b - 1) * b ^ j) ∧ Below w12.heap.size w12 wr) (fun _ i _ => k + 1 - (intOf i).toNat)
        case atStart => exact ⟨0, b - 1, hk1, by go_num, by go_num, Lib.hid (by simp), Below.refl _ _⟩
        case round =>
          obtain ⟨j, A, hj, rfl, rfl, HA, hb⟩ := hrel
          have KB := Lib.hid hb
          clear hb
          by_cases hlt : j + 1 < k
          · have hji : (j : Int) + 1 < (k : Int) := by omega
            obtain ⟨q1, q2⟩ := sp_le HSP.out (i := j + 1) (by omega)
            obtain ⟨A2, hA2⟩ : ∃ A2, A2 = (b - 1) * b ^ (j + 1) := ⟨_, rfl⟩
            have hP : A * b = A2 := by rw [hA2, HA.out, Int.pow_succ, Int.mul_assoc]
            rw [← hA2] at q1 q2
            have HA2 := Lib.hid hA2
            clear hA2
            go_wp2
            go_roundw
            case rel => exact ⟨j + 1, A2, by omega, by go_num, by first | rfl | go_num, HA2, KB.out⟩
            case measure => simp [intOf]; omega
          · obtain rfl : k = j + 1 := by omega
            have R23 := Lib.hid (RA.out.keep KB.out)
            have BE13 := Lib.hid (BE12.out.trans (KB.out.mono BE12.out.size))
            obtain ⟨w13, hwr⟩ : ∃ w13, w13 = wr := ⟨_, rfl⟩
            subst hwr
            clear KB
            have HAS := Lib.hid (show A = L.sum by rw [HA.out, HF.out.sum]; rfl)
            have hji : ¬ (j : Int) + 1 < ((j + 1 : Nat) : Int) := by omega
            skip
            go_wp2
            go_loopw [37, 38] (fun l i wr => ∃ (j : Nat) (la : Int), j ≤ M + 1 ∧ i = .int .i64 (j : Int) ∧ l = .int .i64 la ∧ ((j ≤ T ∧ -1 ≤ la ∧ la < (j : Int)) ∨ (T < j ∧ la = (T : Int))) ∧ Below w13.heap.size w13 wr) (fun _ i _ => M + 1 - (intOf i).toNat)
            case atStart => exact ⟨0, -1, Nat.zero_le _, rfl, rfl, .inl ⟨Nat.zero_le _, by omega, by omega⟩, Below.refl _ _⟩
            case round =>
              obtain ⟨q, la, hq, rfl, rfl, hla, hb⟩ := hrel
              have KB := Lib.hid hb
              clear hb
              by_cases hlt : q ≤ M
              · have hqi : (q : Int) ≤ (M : Int) := by omega
                have hqN : (q : Int) < (NL : Int) := by omega
                obtain ⟨gB, oB, cB, hBe, hgB, hzB⟩ := sl_liesN (R23.out.keep KB.out).sl (by rw [HF.out.len]; omega)
                have hae : gA = gB ∧ oA = oB := by injection hBe with h1; injection h1 with h2; injection h2 with h3 h4; exact ⟨h3, h4⟩
                obtain ⟨rfl, rfl⟩ := hae
                have zq := hzB q (by rw [HF.out.len]; omega)
                have htop := HF.out.top.2
                have hnone := HF.out.none q
                obtain ⟨x, hx⟩ : ∃ x, x = L.getD q 0 := ⟨_, rfl⟩
                rw [← hx] at zq hnone
                have HTP := Lib.hid (show q = T → 0 < x from fun e => by rw [hx, e]; exact htop)
                clear hBe hzB hx htop
                by_cases h0 : 0 < x
                · skip
                  have HNX := Lib.hid (show (q + 1 ≤ T ∧ -1 ≤ (q : Int) ∧ (q : Int) < ((q + 1 : Nat) : Int)) ∨ (T < q + 1 ∧ (q : Int) = (T : Int)) from by by_cases e : q < T; exact .inl ⟨by omega, by omega, by omega⟩; exact .inr ⟨by omega, by have := hnone; by_cases e2 : T < q; exact absurd h0 (hnone e2 hlt); omega⟩)
                  clear hla hnone
                  go_wp2
                  go_roundw
                  case rel => exact ⟨q + 1, _, by omega, by go_num, rfl, HNX.out, KB.out⟩
                  case measure => simp [intOf]; omega
                · skip
                  have HNX := Lib.hid (show (q + 1 ≤ T ∧ -1 ≤ la ∧ la < ((q + 1 : Nat) : Int)) ∨ (T < q + 1 ∧ la = (T : Int)) from by rcases hla with ⟨c1, c2, c3⟩ | ⟨c1, c2⟩; (by_cases e : q = T; exact absurd (HTP.out e) h0; exact .inl ⟨by omega, by omega, by omega⟩); exact .inr ⟨by omega, c2⟩)
                  clear hla hnone
                  go_wp2
                  go_roundw
                  case rel => exact ⟨q + 1, _, by omega, by go_num, rfl, HNX.out, KB.out⟩
                  case measure => simp [intOf]; omega
              · obtain rfl : la = (T : Int) := by omega
                obtain rfl : q = M + 1 := by omega
                have hqi : ¬ ((M + 1 : Nat) : Int) ≤ (M : Int) := by omega
                clear hla
                have R24 := Lib.hid (R23.out.keep KB.out)
                have BE14 := Lib.hid (BE13.out.trans (KB.out.mono BE13.out.size))
                obtain ⟨w14, hwr⟩ : ∃ w14, w14 = wr := ⟨_, rfl⟩
                subst hwr
                clear KB
                have HSM := Lib.hid (qSum_mid _ L _ R24.out.sl (by rw [HF.out.len]; omega) HF.out.bd)
                rw [← HAS.out] at HSM
                go_wp2_with fail
                refine (HSM.out).mono ?_
                rintro e w15 ⟨rfl, hb⟩
                have R25 := Lib.hid (R24.out.keep hb)
                have BE15 := Lib.hid (BE14.out.trans (hb.mono BE14.out.size))
                clear hb
                as_aux_lemma =>
                  go_wp2_with fail
                  refine (draw_NeverWord _ xs1 _ (HS1.out.keep BE15.out) HL1.out).mono ?_
                  rintro e y2 ⟨k, rfl, hk, hb⟩
                  have BE16 := Lib.hid (BE15.out.trans (hb.mono BE15.out.size))
                  clear hb
                  have HW1 := Lib.hid (fun w => impl_NeverWord k w)
                  have HW2 := Lib.hid (fun w => spec_NeverWord k w)
                  have HWL := Lib.hid (LF_NeverWord_len k)
                  have HWN := Lib.hid (fun w => impl_NeverWord (k + 1) w)
                  simp only [OK_NeverWord] at HW1 HW2 HWN
                  by_cases hkk : 2 ≤ k ∧ k ≤ 17
                  · obtain ⟨K, rfl⟩ : ∃ K : Nat, k = (K : Int) := ⟨k.toNat, by omega⟩
                    have hk2 : 2 ≤ K := by omega
                    have hk17 : K ≤ 17 := by omega
                    have e1 : okNv (K : Int) = true := decide_eq_true hkk
                    have e2 : LF_NeverWord (K : Int) = nvW K := if_pos e1
                    rw [e1, e2] at HW1 HW2
                    rw [e2] at HWL
                    have HNF := Lib.hid (nv_facts hk2 hk17)
                    clear e1 e2 hkk hk
                    go_wp2_with fail
                    refine (HW1.out _).mono ?_
                    rintro e w17 ⟨uA, rfl, hr, hb⟩
                    have BE17 := Lib.hid (BE16.out.trans (hb.mono BE16.out.size))
                    have R26 := Lib.hid hr
                    clear hr hb
                    go_wp2_with fail
                    refine (HW2.out _).mono ?_
                    rintro e w18 ⟨uB, rfl, hr, hb⟩
                    have R27 := Lib.hid (R26.out.keep hb)
                    have BE18 := Lib.hid (BE17.out.trans (hb.mono BE17.out.size))
                    have R28 := Lib.hid hr
                    clear hr hb
                    go_wp2_with fail
                    refine (qSame_any _ _ (nvW K) _ R27.out.sl R28.out.sl HWL.out).mono ?_
                    rintro e w19 ⟨rfl, hb⟩
                    have R29 := Lib.hid (R27.out.keep hb)
                    have R30 := Lib.hid (R28.out.keep hb)
                    have BE19 := Lib.hid (BE18.out.trans (hb.mono BE18.out.size))
                    clear hb
                    have RA := Lib.hid (R29.out.mono BE16.out.size)
                    go_wp2
                    go_loopw [44, 45] (fun u i wr => ∃ n : Nat, n ≤ 4 ∧ i = .int .i64 (n : Int) ∧ Rd wr W.heap.size u (nvS K n) ∧ Below w19.heap.size w19 wr) (fun _ i _ => 4 - (intOf i).toNat)
                    case atStart => exact ⟨0, Nat.zero_le _, rfl, RA.out, Below.refl _ _⟩
                    case round =>
                      obtain ⟨n, hn, rfl, hr, hb⟩ := hrel
                      have KB := Lib.hid hb
                      have RN := Lib.hid hr
                      clear hb hr
                      by_cases hlt : n < 4
                      · have hni : (n : Int) < 4 := by omega
                        obtain ⟨p1, p2⟩ := HNF.out.2 n (by omega)
                        obtain ⟨p3, p4⟩ := HNF.out.2 (n + 1) (by omega)
                        have hd1 := (okR_dg p2).l40
                        have hd2 := (okR_dg p4).l40
                        skip
                        have eA : okA 2 (nvS K n) = true := okA_yes p2 hd2
                        skip
                        have eS : LF_AddReversed (nvS K n) 2 = nvS K (n + 1) := if_pos eA
                        have HQ1 := Lib.hid (fun v w h => impl_IsSymmetric v (nvS K n) 2 W.heap.size w h (by omega))
                        have HQ2 := Lib.hid (fun v w h => impl_AddReversed v (nvS K n) 2 W.heap.size w h (by omega))
                        simp only [VAL_IsSymmetric, OK_AddReversed] at HQ1 HQ2
                        rw [p2, p1, Bool.true_and] at HQ1
                        rw [eA, eS] at HQ2
                        clear p1 p2 p3 p4 eA eS
                        go_wp2_with fail
                        refine (HQ1.out _ _ RN.out).mono ?_
                        rintro e z1 ⟨rfl, hb⟩
                        have KB1 := Lib.hid (KB.out.trans (hb.mono KB.out.size))
                        have RN1 := Lib.hid (RN.out.keep hb)
                        clear hb
                        go_wp2_with fail
                        refine (HQ2.out _ _ RN1.out).mono ?_
                        rintro e z2 ⟨un, rfl, hr, hb⟩
                        have KB2 := Lib.hid (KB1.out.trans (hb.mono KB1.out.size))
                        have RN2 := Lib.hid (hr.mono (Nat.le_trans BE19.out.size KB1.out.size))
                        clear hb hr
                        go_wp2
                        go_roundw
                        case rel => exact ⟨n + 1, by omega, by go_num, RN2.out, KB2.out⟩
                        case measure => simp [intOf]; omega
                      · obtain rfl : n = 4 := by omega
                        have hn4 := HNF.out.1
                        rw [hn4] at RN
                        clear hn4
                        have BE20 := Lib.hid (BE19.out.trans (KB.out.mono BE19.out.size))
                        clear KB
                        by_cases h16 : K ≤ 16
                        · have e1 : okNv ((K : Int) + 1) = true := decide_eq_true (by omega)
                          have e2 : LF_NeverWord ((K : Int) + 1) = nvW (K + 1) := (if_pos e1).trans (by rw [show ((K : Int) + 1).toNat = K + 1 by omega])
                          rw [e1, e2] at HWN
                          have hwl : (nvW (K + 1)).length ≤ 2000000 := by unfold nvW; simp; omega
                          clear e1 e2
                          go_wp2_with fail
                          refine (HWN.out _).mono ?_
                          rintro e w21 ⟨uQ, rfl, hr, hb⟩
                          have R31 := Lib.hid (RN.out.keep hb)
                          have BE21 := Lib.hid (BE20.out.trans (hb.mono BE20.out.size))
                          have R32 := Lib.hid hr
                          clear hr hb
                          go_wp2_with fail
                          refine (qSame_any _ _ (nvW (K + 1)) _ R31.out.sl R32.out.sl hwl).mono ?_
                          rintro e w22 ⟨rfl, hb⟩
                          have R33 := Lib.hid (R31.out.keep hb)
                          have R34 := Lib.hid (R32.out.keep hb)
                          have BE22 := Lib.hid (BE21.out.trans (hb.mono BE21.out.size))
                          clear hb
                          go_wp2
                          go_ret
                          exact ⟨rfl, BE22.out⟩
                        · have e1 : okNv ((K : Int) + 1) = false := decide_eq_false (by omega)
                          rw [e1] at HWN
                          go_wp2_with fail
                          refine (HWN.out _).mono ?_
                          rintro e w21 ⟨uQ, rfl, hr, hb⟩
                          have R31 := Lib.hid (RN.out.keep hb)
                          have BE21 := Lib.hid (BE20.out.trans (hb.mono BE20.out.size))
                          have R32 := Lib.hid hr
                          clear hr hb
                          go_wp2
                          go_ret
                          exact ⟨rfl, BE21.out⟩
                  · have e1 : okNv k = false := decide_eq_false hkk
                    have e2 : LF_NeverWord k = [] := if_neg (by rw [e1]; simp)
                    rw [e1, e2] at HW1 HW2
                    clear e1 e2
                    go_wp2_with fail
                    refine (HW1.out _).mono ?_
                    rintro e w17 ⟨uA, rfl, hr, hb⟩
                    have BE17 := Lib.hid (BE16.out.trans (hb.mono BE16.out.size))
                    have R26 := Lib.hid hr
                    clear hr hb
                    go_wp2_with fail
                    refine (HW2.out _).mono ?_
                    rintro e w18 ⟨uB, rfl, hr, hb⟩
                    have R27 := Lib.hid (R26.out.keep hb)
                    have BE18 := Lib.hid (BE17.out.trans (hb.mono BE17.out.size))
                    have R28 := Lib.hid hr
                    clear hr hb
                    go_wp2_with fail
                    refine (qSame_any _ _ [] _ R27.out.sl R28.out.sl (by simp)).mono ?_
                    rintro e w19 ⟨rfl, hb⟩
                    have R29 := Lib.hid (R27.out.keep hb)
                    have R30 := Lib.hid (R28.out.keep hb)
                    have BE19 := Lib.hid (BE18.out.trans (hb.mono BE18.out.size))
                    clear hb
                    go_wp2
                    go_ret
                    exact ⟨rfl, BE19.out⟩
      · skip
        have eL : LF_StepsSpread V b m = [] := LFS_no ho
        rw [ho, eL] at HU1 HU2
        rw [ho] at HU3 HU4
        obtain ⟨s1, hs1⟩ : ∃ s1, s1 = SL1 V b m := ⟨_, rfl⟩
        obtain ⟨s2, hs2⟩ : ∃ s2, s2 = SL2 V b m := ⟨_, rfl⟩
        rw [← hs1, ← hs2] at HU3 HU4
        clear ho eL hs1 hs2
        go_wp2_with fail
        refine (HU1.out _).mono ?_
        rintro e w8 ⟨uA, rfl, hr, hb⟩
        have BE8 := Lib.hid (BE7.out.trans (hb.mono BE7.out.size))
        have R14 := Lib.hid hr
        clear hr hb
        go_wp2_with fail
        refine (HU2.out _).mono ?_
        rintro e w9 ⟨uB, rfl, hr, hb⟩
        have R15 := Lib.hid (R14.out.keep hb)
        have BE9 := Lib.hid (BE8.out.trans (hb.mono BE8.out.size))
        have R16 := Lib.hid hr
        clear hr hb
        go_wp2_with fail
        refine (HU3.out _).mono ?_
        rintro e w10 ⟨rfl, hb⟩
        have R17 := Lib.hid (R15.out.keep hb)
        have R18 := Lib.hid (R16.out.keep hb)
        have BE10 := Lib.hid (BE9.out.trans (hb.mono BE9.out.size))
        clear hb
        go_wp2_with fail
        refine (HU4.out _).mono ?_
        rintro e w11 ⟨rfl, hb⟩
        have R19 := Lib.hid (R17.out.keep hb)
        have R20 := Lib.hid (R18.out.keep hb)
        have BE11 := Lib.hid (BE10.out.trans (hb.mono BE10.out.size))
        clear hb
        go_wp2_with fail
        refine (qSame_any _ _ [] _ R19.out.sl R20.out.sl (by simp)).mono ?_
        rintro e w12 ⟨rfl, hb⟩
        have R21 := Lib.hid (R19.out.keep hb)
        have R22 := Lib.hid (R20.out.keep hb)
        have BE12 := Lib.hid (BE11.out.trans (hb.mono BE11.out.size))
        clear hb
        as_aux_lemma =>
          go_wp2_with fail
          refine (draw_NeverWord _ xs1 _ (HS1.out.keep BE12.out) HL1.out).mono ?_
          rintro e y2 ⟨k, rfl, hk, hb⟩
          have BE13 := Lib.hid (BE12.out.trans (hb.mono BE12.out.size))
          clear hb
          have HW1 := Lib.hid (fun w => impl_NeverWord k w)
          have HW2 := Lib.hid (fun w => spec_NeverWord k w)
          have HWL := Lib.hid (LF_NeverWord_len k)
          have HWN := Lib.hid (fun w => impl_NeverWord (k + 1) w)
          simp only [OK_NeverWord] at HW1 HW2 HWN
          by_cases hkk : 2 ≤ k ∧ k ≤ 17
          · obtain ⟨K, rfl⟩ : ∃ K : Nat, k = (K : Int) := ⟨k.toNat, by omega⟩
            have hk2 : 2 ≤ K := by omega
            have hk17 : K ≤ 17 := by omega
            have e1 : okNv (K : Int) = true := decide_eq_true hkk
            have e2 : LF_NeverWord (K : Int) = nvW K := if_pos e1
            rw [e1, e2] at HW1 HW2
            rw [e2] at HWL
            have HNF := Lib.hid (nv_facts hk2 hk17)
            clear e1 e2 hkk hk
            go_wp2_with fail
            refine (HW1.out _).mono ?_
            rintro e w14 ⟨uA, rfl, hr, hb⟩
            have BE14 := Lib.hid (BE13.out.trans (hb.mono BE13.out.size))
            have R23 := Lib.hid hr
            clear hr hb
            go_wp2_with fail
            refine (HW2.out _).mono ?_
            rintro e w15 ⟨uB, rfl, hr, hb⟩
            have R24 := Lib.hid (R23.out.keep hb)
            have BE15 := Lib.hid (BE14.out.trans (hb.mono BE14.out.size))
            have R25 := Lib.hid hr
            clear hr hb
            go_wp2_with fail
            refine (qSame_any _ _ (nvW K) _ R24.out.sl R25.out.sl HWL.out).mono ?_
            rintro e w16 ⟨rfl, hb⟩
            have R26 := Lib.hid (R24.out.keep hb)
            have R27 := Lib.hid (R25.out.keep hb)
            have BE16 := Lib.hid (BE15.out.trans (hb.mono BE15.out.size))
            clear hb
            have RA := Lib.hid (R26.out.mono BE13.out.size)
            go_wp2
            go_loopw [44, 45] (fun u i wr => ∃ n : Nat, n ≤ 4 ∧ i = .int .i64 (n : Int) ∧ Rd wr W.heap.size u (nvS K n) ∧ Below w16.heap.size w16 wr) (fun _ i _ => 4 - (intOf i).toNat)
            case atStart => exact ⟨0, Nat.zero_le _, rfl, RA.out, Below.refl _ _⟩
            case round =>
              obtain ⟨n, hn, rfl, hr, hb⟩ := hrel
              have KB := Lib.hid hb
              have RN := Lib.hid hr
              clear hb hr
              by_cases hlt : n < 4
              · have hni : (n : Int) < 4 := by omega
                obtain ⟨p1, p2⟩ := HNF.out.2 n (by omega)
                obtain ⟨p3, p4⟩ := HNF.out.2 (n + 1) (by omega)
                have hd1 := (okR_dg p2).l40
                have hd2 := (okR_dg p4).l40
                skip
                have eA : okA 2 (nvS K n) = true := okA_yes p2 hd2
                skip
                have eS : LF_AddReversed (nvS K n) 2 = nvS K (n + 1) := if_pos eA
                have HQ1 := Lib.hid (fun v w h => impl_IsSymmetric v (nvS K n) 2 W.heap.size w h (by omega))
                have HQ2 := Lib.hid (fun v w h => impl_AddReversed v (nvS K n) 2 W.heap.size w h (by omega))
                simp only [VAL_IsSymmetric, OK_AddReversed] at HQ1 HQ2
                rw [p2, p1, Bool.true_and] at HQ1
                rw [eA, eS] at HQ2
                clear p1 p2 p3 p4 eA eS
                go_wp2_with fail
                refine (HQ1.out _ _ RN.out).mono ?_
                rintro e z1 ⟨rfl, hb⟩
                have KB1 := Lib.hid (KB.out.trans (hb.mono KB.out.size))
                have RN1 := Lib.hid (RN.out.keep hb)
                clear hb
                go_wp2_with fail
                refine (HQ2.out _ _ RN1.out).mono ?_
                rintro e z2 ⟨un, rfl, hr, hb⟩
                have KB2 := Lib.hid (KB1.out.trans (hb.mono KB1.out.size))
                have RN2 := Lib.hid (hr.mono (Nat.le_trans BE16.out.size KB1.out.size))
                clear hb hr
                go_wp2
                go_roundw
                case rel => exact ⟨n + 1, by omega, by go_num, RN2.out, KB2.out⟩
                case measure => simp [intOf]; omega
              · obtain rfl : n = 4 := by omega
                have hn4 := HNF.out.1
                rw [hn4] at RN
                clear hn4
                have BE17 := Lib.hid (BE16.out.trans (KB.out.mono BE16.out.size))
                clear KB
                by_cases h16 : K ≤ 16
                · have e1 : okNv ((K : Int) + 1) = true := decide_eq_true (by omega)
                  have e2 : LF_NeverWord ((K : Int) + 1) = nvW (K + 1) := (if_pos e1).trans (by rw [show ((K : Int) + 1).toNat = K + 1 by omega])
                  rw [e1, e2] at HWN
                  have hwl : (nvW (K + 1)).length ≤ 2000000 := by unfold nvW; simp; omega
                  clear e1 e2
                  go_wp2_with fail
                  refine (HWN.out _).mono ?_
                  rintro e w18 ⟨uQ, rfl, hr, hb⟩
                  have R28 := Lib.hid (RN.out.keep hb)
                  have BE18 := Lib.hid (BE17.out.trans (hb.mono BE17.out.size))
                  have R29 := Lib.hid hr
                  clear hr hb
                  go_wp2_with fail
                  refine (qSame_any _ _ (nvW (K + 1)) _ R28.out.sl R29.out.sl hwl).mono ?_
                  rintro e w19 ⟨rfl, hb⟩
                  have R30 := Lib.hid (R28.out.keep hb)
                  have R31 := Lib.hid (R29.out.keep hb)
                  have BE19 := Lib.hid (BE18.out.trans (hb.mono BE18.out.size))
                  clear hb
                  go_wp2
                  go_ret
                  exact ⟨rfl, BE19.out⟩
                · have e1 : okNv ((K : Int) + 1) = false := decide_eq_false (by omega)
                  rw [e1] at HWN
                  go_wp2_with fail
                  refine (HWN.out _).mono ?_
                  rintro e w18 ⟨uQ, rfl, hr, hb⟩
                  have R28 := Lib.hid (RN.out.keep hb)
                  have BE18 := Lib.hid (BE17.out.trans (hb.mono BE17.out.size))
                  have R29 := Lib.hid hr
                  clear hr hb
                  go_wp2
                  go_ret
                  exact ⟨rfl, BE18.out⟩
          · have e1 : okNv k = false := decide_eq_false hkk
            have e2 : LF_NeverWord k = [] := if_neg (by rw [e1]; simp)
            rw [e1, e2] at HW1 HW2
            clear e1 e2
            go_wp2_with fail
            refine (HW1.out _).mono ?_
            rintro e w14 ⟨uA, rfl, hr, hb⟩
            have BE14 := Lib.hid (BE13.out.trans (hb.mono BE13.out.size))
            have R23 := Lib.hid hr
            clear hr hb
            go_wp2_with fail
            refine (HW2.out _).mono ?_
            rintro e w15 ⟨uB, rfl, hr, hb⟩
            have R24 := Lib.hid (R23.out.keep hb)
            have BE15 := Lib.hid (BE14.out.trans (hb.mono BE14.out.size))
            have R25 := Lib.hid hr
            clear hr hb
            go_wp2_with fail
            refine (qSame_any _ _ [] _ R24.out.sl R25.out.sl (by simp)).mono ?_
            rintro e w16 ⟨rfl, hb⟩
            have R26 := Lib.hid (R24.out.keep hb)
            have R27 := Lib.hid (R25.out.keep hb)
            have BE16 := Lib.hid (BE15.out.trans (hb.mono BE15.out.size))
            clear hb
            go_wp2
            go_ret
            exact ⟨rfl, BE16.out⟩

end Go.Proofs.Ytnggfcopndcppaa
