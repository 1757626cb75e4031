/-
  Joint text of T3 T4 T5 (written by wip/tools/merge.py).
-/
import Derived.Test.YtnggfcopndcppaaTJ
import Derived.Test.YtnggfcopndcppaaTH
/- from XT3 -/
namespace Go.Proofs.Ytnggfcopndcppaa
open Go.RowKit
set_option linter.unusedVariables false
set_option linter.unusedSimpArgs false
set_option maxRecDepth 100000

theorem tmW_cases (V : Nat) (b : Int) (m i : Nat) : (tmW V b m i = none ∧ tmZ V b m i = -1 ∧ ixT m (tmW V b m i) = m + 1) ∨ (∃ k : Nat, tmW V b m i = some k ∧ tmZ V b m i = (k : Int) ∧ ixT m (tmW V b m i) = k ∧ k ≤ m) := by
  unfold tmZ
  cases h : tmW V b m i with
  | none => exact .inl ⟨rfl, rfl, rfl⟩
  | some k => exact .inr ⟨k, rfl, rfl, rfl, rvT_le h⟩

theorem spec_StepsSpread (V b m : Int) (w : World) :
    Calls Try.prog 30 #[.int .i64 V, .int .i64 b, .int .i64 m] w fun e w' => ∃ u, e = .returned (.tuple #[u, .bool (OK_StepsSpread V b m)]) ∧ Rd w' w.heap.size u (LF_StepsSpread V b m) ∧ Below w.heap.size w w' := by
  unfold OK_StepsSpread
  by_cases ho : okSp V b = true
  · by_cases hm : okM m = true
    · have HM := Lib.hid hm
      have ha := okSS_yes ho hm
      rw [LFS_yes ha, ha]
      obtain ⟨U, rfl, hs⟩ := okSp_sp ho
      obtain ⟨k, rfl, hk⟩ := okM_nat hm
      rw [Int.toNat_natCast, Int.toNat_natCast]
      have HFR := Lib.hid (fun w => rvFrom_yes U b w hs)
      have hb2 := hs.b2
      have hb16 := hs.b16
      obtain ⟨l1, l2⟩ := hs.least
      obtain ⟨_, n1, n2⟩ := hs.cn
      have HSTP := Lib.hid (fun (i : Nat) (hi : i < 20000) (v : Value) (B : Nat) (w' : World) (h : Rd w' B v (dgs b (b ^ (U - 1) + (i : Int)))) =>
        show Calls Try.prog 66 #[v, .int .i64 b, .int .i64 (k : Int)] w' fun e w'' => e = .returned (.tuple #[.int .i64 (((tmW U b k i).getD 0 : Nat) : Int), .bool (tmW U b k i).isSome]) ∧ Below w'.heap.size w' w'' from rvSteps_any v (dgs b (b ^ (U - 1) + (i : Int))) b k B w' h (dgs_Dg b _ hb2 hb16 (by omega) (by omega)) hk)
      obtain ⟨P, hP⟩ : ∃ P, P = b ^ (U - 1) := ⟨_, rfl⟩
      obtain ⟨N, hN⟩ : ∃ N, N = cnN U b := ⟨_, rfl⟩
      obtain ⟨M, hM⟩ : ∃ M, M = k + 2 := ⟨_, rfl⟩
      obtain ⟨L, hL⟩ : ∃ L, L = sprN U b k (cnN U b) := ⟨_, rfl⟩
      rw [← hN] at HFR n1 n2
      rw [← hP] at HFR l1 l2 HSTP
      rw [← hL]
      rw [← hN] at hL
      have HLL := Lib.hid hL
      have HMM := Lib.hid hM
      have hM2 : M ≤ 102 := by omega
      have HMI := Lib.hid (show (k : Int) + 2 = (M : Int) by omega)
      have hn0 : ((N : Int) == 0) = false := beq_no (by omega)
      have HR0 := Lib.hid (show List.replicate M (0:Int) = sprN U b k 0 by rw [hM]; rfl)
      clear ho hm ha hs hP hN hM hL
      go_enter Try.func30, Try.ntmps30
      go_wp2_with (first
        | (go_at_call 75; go_loud (refine (HFR.out _).mono ?_; rintro e w1 ⟨rfl, rfl⟩))
        | (go_at_call 63; go_loud (refine (rvMost_any _ _).mono ?_; rw [HM.out]; rintro e w1 ⟨rfl, rfl⟩))
        | (at_make; go_loud (refine wpList_mkR rfl _ _ rfl .i64 .i64 _ _ M rfl rfl (by have h := HMI.out; first | exact h | go_num) (by have h := HMI.out; first | exact h | go_num) (by omega) ?_; intro w1 hr1 hg1 hb1; have R1 := Lib.hid hr1; have B1 := Lib.hid hb1; clear hr1 hg1 hb1)))
      go_loopw [11] (fun i wr => ∃ j : Nat, j ≤ N ∧ i = .int .i64 (P + (j : Int)) ∧ Rd wr w.heap.size (.slice (some ⟨w.heap.size, 0, none⟩) M M) (sprN U b k j) ∧ Below w.heap.size w wr) (fun i _ => (P + N - intOf i).toNat)
      case atStart => exact ⟨0, Nat.zero_le _, by simp, by rw [← HR0.out]; exact R1.out, B1.out⟩
      case round =>
        obtain ⟨j, hj, rfl, hr, hb⟩ := hrel
        have HR := Lib.hid hr
        have HB := Lib.hid hb
        clear hr hb
        by_cases hlt : j < N
        · have hltI : P + (j : Int) < P + (N : Int) := by omega
          have hw1 : IntKind.i64.wrap (P + (N : Int)) = P + (N : Int) := IntWalk.i64_in _ (by omega)
          have hx := ixT_lt U b k j
          have HTC := Lib.hid (tmW_cases U b k j)
          have HSJ := Lib.hid (HSTP.out j (by omega))
          go_wp2_with fail
          refine (dgOf_any (P + (j : Int)) b _ (by omega) (by omega) hb2 hb16).mono ?_
          rintro e w2 ⟨u2, rfl, hr2, hb2'⟩
          obtain ⟨a2, c2, hu2⟩ := hr2.sl.len
          subst hu2
          have HR2 := Lib.hid (HR.out.keep hb2')
          have B2 := Lib.hid (Below.step HB.out HB.out.size hb2')
          have D2 := Lib.hid hr2
          clear hr2 hb2'
          go_wp2_with fail
          refine (HSJ.out _ _ _ D2.out).mono ?_
          rintro e w3 ⟨rfl, hb3⟩
          have HR3 := Lib.hid (HR2.out.keep hb3)
          have B3 := Lib.hid (Below.step B2.out B2.out.size hb3)
          clear hb3
          obtain ⟨x, hxx⟩ : ∃ x, x = ixT k (tmW U b k j) := ⟨_, rfl⟩
          have HX := Lib.hid hxx
          rw [← hxx] at hx HTC
          have hxM : x < M := by have := HMM.out; omega
          have hlen := sprN_len U b k j
          have hq0 : w3.cell? ⟨w.heap.size, x, none⟩ = some (.int .i64 ((sprN U b k j).getD x 0)) := by
            rw [HR3.out.at.2.2.2.2.1 x (by rw [hlen]; have := HMM.out; omega), List.getD_eq_getElem?_getD, List.getElem?_eq_getElem (by rw [hlen]; have := HMM.out; omega)]; rfl
          have hqb := sprN_bd U b k j x
          have hfz := HR3.out.at.2.2.2.2.2 x
          obtain ⟨q, hq⟩ : ∃ q, q = (sprN U b k j).getD x 0 := ⟨_, rfl⟩
          rw [← hq] at hq0 hqb
          obtain ⟨q1, q2⟩ := hqb
          have HST := Lib.hid (show (sprN U b k j).set x (q + 1) = sprN U b k (j + 1) by rw [hq, hxx]; rfl)
          have HRS := Lib.hid (HR3.out.set x (q + 1))
          have HBS := Lib.hid (B3.out.setCell (p := ⟨w.heap.size, x, none⟩) (Nat.le_refl _) (.int .i64 (q + 1)))
          clear hxx hlen hq
          rcases HTC.out with ⟨h0, h1, h2⟩ | ⟨t, h0, h1, h2, h3⟩
          · rw [h0]
            have HX1 := Lib.hid (show (k : Int) + 1 = (x : Int) by omega)
            have hwx : IntKind.i64.wrap ((k : Int) + 1) = (x : Int) := by rw [IntWalk.i64_in _ (by omega)]; omega
            have hwx2 : wrap64 ((k : Int) + 1) = (x : Int) := by rw [IntWalk.wrap64_in _ (by omega)]; omega
            clear h0 h1 h2 hx
            simp only [Option.getD_none, Option.isSome_none]
            go_wp2
            go_roundw
            case rel => exact ⟨j + 1, by omega, by go_num, by rw [← HST.out]; exact HRS.out.1, HBS.out⟩
            case measure => simp [intOf]; omega
          · rw [h0]
            subst h2
            clear h0 h1 h3 hx
            simp only [Option.getD_some, Option.isSome_some]
            go_wp2
            go_roundw
            case rel => exact ⟨j + 1, by omega, by go_num, by rw [← HST.out]; exact HRS.out.1, HBS.out⟩
            case measure => simp [intOf]; omega
        · obtain rfl : j = N := by omega
          have hw1 : IntKind.i64.wrap (P + (j : Int)) = P + (j : Int) := IntWalk.i64_in _ (by omega)
          go_wp2
          go_ret2
          exact ⟨_, rfl, by rw [HLL.out]; exact HR.out, HB.out⟩
    · have hm' : okM m = false := by simpa using hm
      have HM := Lib.hid hm'
      rw [LFS_no (okSS_no2 hm'), okSS_no2 hm']
      obtain ⟨U, rfl, hs⟩ := okSp_sp ho
      have HFR := Lib.hid (fun w => rvFrom_yes U b w hs)
      obtain ⟨_, n1, n2⟩ := hs.cn
      obtain ⟨N, hN⟩ : ∃ N, N = cnN U b := ⟨_, rfl⟩
      rw [← hN] at HFR n1
      have hn0 : ((N : Int) == 0) = false := beq_no (by omega)
      clear ho hm hm' hs hN
      go_enter Try.func30, Try.ntmps30
      go_wp2_with (first
        | (go_at_call 75; go_loud (refine (HFR.out _).mono ?_; rintro e w1 ⟨rfl, rfl⟩))
        | (go_at_call 63; go_loud (refine (rvMost_any _ _).mono ?_; rw [HM.out]; rintro e w1 ⟨rfl, rfl⟩)))
      go_ret2
      exact ⟨_, rfl, Rd.nil _ _, Below.refl _ _⟩
  · have ho' : okSp V b = false := by simpa using ho
    have HO := Lib.hid ho'
    rw [LFS_no (okSS_no1 ho'), okSS_no1 ho']
    clear ho ho'
    go_enter Try.func30, Try.ntmps30
    go_wp2_with (go_at_call 75; go_loud (refine (rvFrom_no _ _ _ HO.out).mono ?_; rintro e w1 ⟨rfl, rfl⟩))
    go_ret2
    exact ⟨_, rfl, Rd.nil _ _, Below.refl _ _⟩

theorem LF_StepsSpread_len (V b m : Int) : (LF_StepsSpread V b m).length ≤ 2000000 := by
  by_cases h : okSS V b m = true
  · rw [LFS_yes h, sprN_len]
    unfold okSS at h
    rw [Bool.and_eq_true] at h
    have := of_decide_eq_true h.2
    omega
  · rw [LFS_no (by simpa using h)]; simp

end Go.Proofs.Ytnggfcopndcppaa

/- from XT4 -/
namespace Go.Proofs.Ytnggfcopndcppaa
open Go.RowKit
set_option linter.unusedVariables false
set_option linter.unusedSimpArgs false
set_option maxRecDepth 100000

/-- The slowest number of a width, and how long it takes. -/
def SL1 (V b m : Int) : Int := if okSS V b m = true then b ^ (V.toNat - 1) + ((slwN V.toNat b m.toNat (cnN V.toNat b)).1 : Int) else 0
def SL2 (V b m : Int) : Int := if okSS V b m = true then (slwN V.toNat b m.toNat (cnN V.toNat b)).2 else 0
abbrev VAL_SlowestNumber (V b m : Int) : Value := .tuple #[.int .i64 (SL1 V b m), .int .i64 (SL2 V b m), .bool (okSS V b m)]

theorem slw_end {V : Nat} {b : Int} (h : Sp V b) (m : Nat) : 0 ≤ (slwN V b m (cnN V b)).2 ∧ (slwN V b m (cnN V b)).1 < cnN V b ∧ tmZ V b m (slwN V b m (cnN V b)).1 = (slwN V b m (cnN V b)).2 ∧
    (∀ j, j < (slwN V b m (cnN V b)).1 → tmZ V b m j ≠ (slwN V b m (cnN V b)).2) ∧ (∀ i, i < cnN V b → tmZ V b m i ≤ (slwN V b m (cnN V b)).2) := by
  obtain ⟨h1, h2, h3⟩ := slwN_spec V b m (cnN V b)
  obtain ⟨i, hi, h0⟩ := h.some0 m
  have h4 := h1 i hi
  rw [h0] at h4
  rcases h3 with h3 | ⟨h3, h5, h6⟩
  · omega
  · exact ⟨h4, h3, h5, h6, h1⟩

theorem max_tzl {V : Nat} {b : Int} (h : Sp V b) (m : Nat) : Lib.maxOf (tzl V b m (cnN V b)) = (slwN V b m (cnN V b)).2 := by
  obtain ⟨h0, h1, h2, h3, h4⟩ := slw_end h m
  refine maxOf_is _ _ (fun z hz => ?_) ?_
  · unfold tzl at hz
    rw [List.mem_map] at hz
    obtain ⟨i, hi, rfl⟩ := hz
    exact h4 i (List.mem_range.1 hi)
  · unfold tzl
    rw [List.mem_map]
    exact ⟨_, List.mem_range.2 h1, h2⟩

theorem tzl_getD (V : Nat) (b : Int) (m n j : Nat) (h : j < n) : (tzl V b m n).getD j 0 = tmZ V b m j := by
  rw [List.getD_eq_getElem?_getD, List.getElem?_eq_getElem (by rw [tzl_len]; exact h), tzl_at]; rfl

theorem impl_SlowestNumber (V b m : Int) (w : World) :
    Calls Try.prog 31 #[.int .i64 V, .int .i64 b, .int .i64 m] w fun e w' => e = .returned (VAL_SlowestNumber V b m) ∧ Below w.heap.size w w' := by
  unfold VAL_SlowestNumber
  by_cases ho : okSp V b = true
  · have HO := Lib.hid ho
    by_cases hm : okM m = true
    · have HM := Lib.hid hm
      have ha := okSS_yes ho hm
      have e1 : SL1 V b m = b ^ (V.toNat - 1) + ((slwN V.toNat b m.toNat (cnN V.toNat b)).1 : Int) := if_pos ha
      have e2 : SL2 V b m = (slwN V.toNat b m.toNat (cnN V.toNat b)).2 := if_pos ha
      rw [e1, e2, ha]
      obtain ⟨U, rfl, hs⟩ := okSp_sp ho
      obtain ⟨k, rfl, hk⟩ := okM_nat hm
      rw [Int.toNat_natCast, Int.toNat_natCast]
      have HTW := Lib.hid (fun w => timesOfWidth_any U b k w hs hk)
      obtain ⟨s0, s1, s2, s3, s4⟩ := slw_end hs k
      have hmx := max_tzl hs k
      have HLE := Lib.hid (fun w => leastOfWidth_any b U w hs.b2 hs.b16 hs.v1 hs.v14)
      obtain ⟨l1, l2⟩ := hs.least
      obtain ⟨_, n1, n2⟩ := hs.cn
      have hbd := (tmZ_bd U b k (slwN U b k (cnN U b)).1).2
      rw [s2] at hbd
      obtain ⟨I, hI⟩ : ∃ I, I = (slwN U b k (cnN U b)).1 := ⟨_, rfl⟩
      obtain ⟨T, hT⟩ : ∃ T, T = (slwN U b k (cnN U b)).2 := ⟨_, rfl⟩
      rw [← hI, ← hT]
      rw [← hT] at s0 hmx hbd
      rw [← hI] at s1
      rw [← hI, ← hT] at s2 s3
      obtain ⟨P, hP⟩ : ∃ P, P = b ^ (U - 1) := ⟨_, rfl⟩
      rw [← hP] at HLE l1 l2
      rw [← hP]
      have HIX := Lib.hid (show ∀ n, cnN U b = n → Lib.idxOf ((tzl U b k n).take n) T = (I : Int) from fun n hn => by
        subst hn
        exact Lib.idxOf_hit _ _ I T s1 (by rw [tzl_len]; exact Nat.le_refl _) (by rw [tzl_getD U b k _ I s1, s2]) (fun j hj => by rw [tzl_getD U b k _ j (by omega)]; exact s3 j hj))
      have HMX := Lib.hid (show ∀ n, cnN U b = n → Lib.maxOf ((tzl U b k n).take n) = T from fun n hn => by
        subst hn
        rw [List.take_of_length_le (by rw [tzl_len]; exact Nat.le_refl _), hmx])
      obtain ⟨N, hN⟩ : ∃ N, N = cnN U b := ⟨_, rfl⟩
      have HIX2 := Lib.hid (HIX.out N hN.symm)
      have HMX2 := Lib.hid (HMX.out N hN.symm)
      rw [← hN] at HTW s1 n1 n2
      clear ho hm ha hs e1 e2 s2 s3 s4 hmx hI hT hP HIX HMX hN
      go_enter Try.func31, Try.ntmps31
      go_wp2_with (first
        | (go_at_call 73; go_loud (refine (isSpreadWidth_any _ _ _).mono ?_; rw [HO.out]; rintro e w1 ⟨rfl, rfl⟩))
        | (go_at_call 60; go_loud (refine (areTimes_any _ _).mono ?_; rw [HM.out]; rintro e w1 ⟨rfl, rfl⟩))
        | (go_at_call 74; go_loud (refine (HTW.out _).mono ?_; rintro e w1 ⟨g1, rfl, hr1, hb1⟩; have R1 := Lib.hid hr1; have B1 := Lib.hid hb1; clear hr1 hb1; have HZ := Lib.hid (show ∀ j, j < (tzl U b k N).length → w1.cell? ⟨g1, 0 + j, none⟩ = some (.int .i64 ((tzl U b k N).getD j 0)) from fun j hj => (by rw [Nat.zero_add, R1.out.at.2.2.2.2.1 j hj, List.getD_eq_getElem?_getD, List.getElem?_eq_getElem hj]; rfl))))
        | (go_at_call 77; go_loud (refine (Try.slices_Max_int g1 0 N N (tzl U b k N) _ (by omega) (by rw [tzl_len]; exact Nat.le_refl _) (by omega) HZ.out).mono ?_; rw [HMX2.out]; rintro e w2 ⟨rfl, rfl⟩))
        | (go_at_call 78; go_loud (refine (HLE.out _).mono ?_; rintro e w3 ⟨rfl, rfl⟩))
        | (go_at_call 79; go_loud (refine (Try.slices_Index_int g1 0 N N (tzl U b k N) T _ (by rw [tzl_len]; exact Nat.le_refl _) (by omega) HZ.out).mono ?_; rw [HIX2.out]; rintro e w4 ⟨rfl, rfl⟩)))
      go_ret3
      exact ⟨rfl, B1.out⟩
    · have hm' : okM m = false := by simpa using hm
      have HM := Lib.hid hm'
      have ha := okSS_no2 (V := V) (b := b) hm'
      have e1 : SL1 V b m = 0 := if_neg (by rw [ha]; simp)
      have e2 : SL2 V b m = 0 := if_neg (by rw [ha]; simp)
      rw [e1, e2, ha]
      clear ho hm hm' ha e1 e2
      go_enter Try.func31, Try.ntmps31
      go_wp2_with (first
        | (go_at_call 73; go_loud (refine (isSpreadWidth_any _ _ _).mono ?_; rw [HO.out]; rintro e w1 ⟨rfl, rfl⟩))
        | (go_at_call 60; go_loud (refine (areTimes_any _ _).mono ?_; rw [HM.out]; rintro e w1 ⟨rfl, rfl⟩)))
      go_ret3
      exact ⟨rfl, Below.refl _ _⟩
  · have ho' : okSp V b = false := by simpa using ho
    have HO := Lib.hid ho'
    have ha := okSS_no1 (m := m) ho'
    have e1 : SL1 V b m = 0 := if_neg (by rw [ha]; simp)
    have e2 : SL2 V b m = 0 := if_neg (by rw [ha]; simp)
    rw [e1, e2, ha]
    clear ho ho' ha e1 e2
    go_enter Try.func31, Try.ntmps31
    go_wp2_with (go_at_call 73; go_loud (refine (isSpreadWidth_any _ _ _).mono ?_; rw [HO.out]; rintro e w1 ⟨rfl, rfl⟩))
    go_ret3
    exact ⟨rfl, Below.refl _ _⟩

end Go.Proofs.Ytnggfcopndcppaa

/- from XT5 -/
namespace Go.Proofs.Ytnggfcopndcppaa
open Go.RowKit
set_option linter.unusedVariables false
set_option linter.unusedSimpArgs false
set_option maxRecDepth 100000

theorem slwN_succ (V : Nat) (b : Int) (m n : Nat) : slwN V b m (n + 1) = if (slwN V b m n).2 < tmZ V b m n then (n, tmZ V b m n) else slwN V b m n := rfl

theorem spec_SlowestNumber (V b m : Int) (w : World) :
    Calls Try.prog 32 #[.int .i64 V, .int .i64 b, .int .i64 m] w fun e w' => e = .returned (VAL_SlowestNumber V b m) ∧ Below w.heap.size w w' := by
  unfold VAL_SlowestNumber
  by_cases ho : okSp V b = true
  · by_cases hm : okM m = true
    · have HM := Lib.hid hm
      have ha := okSS_yes ho hm
      have e1 : SL1 V b m = b ^ (V.toNat - 1) + ((slwN V.toNat b m.toNat (cnN V.toNat b)).1 : Int) := if_pos ha
      have e2 : SL2 V b m = (slwN V.toNat b m.toNat (cnN V.toNat b)).2 := if_pos ha
      rw [e1, e2, ha]
      obtain ⟨U, rfl, hs⟩ := okSp_sp ho
      obtain ⟨k, rfl, hk⟩ := okM_nat hm
      rw [Int.toNat_natCast, Int.toNat_natCast]
      have HFR := Lib.hid (fun w => rvFrom_yes U b w hs)
      obtain ⟨s0, s1, _, _, _⟩ := slw_end hs k
      have hb2 := hs.b2
      have hb16 := hs.b16
      obtain ⟨l1, l2⟩ := hs.least
      obtain ⟨_, n1, n2⟩ := hs.cn
      have HSTP := Lib.hid (fun (i : Nat) (hi : i < 20000) (v : Value) (B : Nat) (w' : World) (h : Rd w' B v (dgs b (b ^ (U - 1) + (i : Int)))) =>
        show Calls Try.prog 66 #[v, .int .i64 b, .int .i64 (k : Int)] w' fun e w'' => e = .returned (.tuple #[.int .i64 (((tmW U b k i).getD 0 : Nat) : Int), .bool (tmW U b k i).isSome]) ∧ Below w'.heap.size w' w'' from rvSteps_any v (dgs b (b ^ (U - 1) + (i : Int))) b k B w' h (dgs_Dg b _ hb2 hb16 (by omega) (by omega)) hk)
      have HBD := Lib.hid (show ∀ n, -1 ≤ (slwN U b k n).2 ∧ (slwN U b k n).2 ≤ 100 from fun n => by
        obtain ⟨h1, h2, h3⟩ := slwN_spec U b k n
        refine ⟨h2, ?_⟩
        rcases h3 with h3 | ⟨_, h3, _⟩
        · omega
        · have := (tmZ_bd U b k (slwN U b k n).1).2
          omega)
      obtain ⟨P, hP⟩ : ∃ P, P = b ^ (U - 1) := ⟨_, rfl⟩
      obtain ⟨N, hN⟩ : ∃ N, N = cnN U b := ⟨_, rfl⟩
      rw [← hN] at HFR n1 n2 s0 s1
      rw [← hN, ← hP]
      rw [← hP] at HFR l1 l2 HSTP
      obtain ⟨I, hI⟩ : ∃ I, I = (slwN U b k N).1 := ⟨_, rfl⟩
      obtain ⟨T, hT⟩ : ∃ T, T = (slwN U b k N).2 := ⟨_, rfl⟩
      rw [← hI, ← hT]
      rw [← hI] at s1
      rw [← hT] at s0
      have HII := Lib.hid hI
      have HTT := Lib.hid hT
      have hn0 : ((N : Int) == 0) = false := beq_no (by omega)
      clear ho hm ha hs hP hN hI hT e1 e2
      go_enter Try.func32, Try.ntmps32
      go_wp2_with (first
        | (go_at_call 75; go_loud (refine (HFR.out _).mono ?_; rintro e w1 ⟨rfl, rfl⟩))
        | (go_at_call 63; go_loud (refine (rvMost_any _ _).mono ?_; rw [HM.out]; rintro e w1 ⟨rfl, rfl⟩)))
      go_loopw [11, 12, 13] (fun bv st i wr => ∃ (j : Nat) (q : Int), j ≤ N ∧ i = .int .i64 (P + (j : Int)) ∧ bv = .int .i64 q ∧ st = .int .i64 (slwN U b k j).2 ∧ ((slwN U b k j).2 = -1 ∨ q = P + ((slwN U b k j).1 : Int)) ∧ Below w.heap.size w wr) (fun _ _ i _ => (P + N - intOf i).toNat)
      case atStart => exact ⟨0, 0, Nat.zero_le _, by simp, rfl, rfl, .inl rfl, Below.refl _ _⟩
      case round =>
        obtain ⟨j, q, hj, rfl, rfl, rfl, hq, hb⟩ := hrel
        have HB := Lib.hid hb
        have HQ := Lib.hid hq
        have hst := HBD.out j
        clear hb hq
        by_cases hlt : j < N
        · have hltI : P + (j : Int) < P + (N : Int) := by omega
          have hw1 : IntKind.i64.wrap (P + (N : Int)) = P + (N : Int) := IntWalk.i64_in _ (by omega)
          have HTC := Lib.hid (tmW_cases U b k j)
          have HSJ := Lib.hid (HSTP.out j (by omega))
          have HSC := Lib.hid (slwN_succ U b k j)
          obtain ⟨s, hs⟩ : ∃ s, s = (slwN U b k j).2 := ⟨_, rfl⟩
          have HS := Lib.hid hs
          rw [← hs] at hst HQ
          rw [← hs]
          obtain ⟨st1, st2⟩ := hst
          clear hs
          go_wp2_with fail
          refine (dgOf_any (P + (j : Int)) b _ (by omega) (by omega) hb2 hb16).mono ?_
          rintro e w2 ⟨u2, rfl, hr2, hb2'⟩
          obtain ⟨a2, c2, hu2⟩ := hr2.sl.len
          subst hu2
          have B2 := Lib.hid (Below.step HB.out HB.out.size hb2')
          have D2 := Lib.hid hr2
          clear hr2 hb2'
          go_wp2_with fail
          refine (HSJ.out _ _ _ D2.out).mono ?_
          rintro e w3 ⟨rfl, hb3⟩
          have B3 := Lib.hid (Below.step B2.out B2.out.size hb3)
          clear hb3
          rcases HTC.out with ⟨h0, h1, h2⟩ | ⟨t, h0, h1, h2, h3⟩
          · rw [h0]
            have HN2 := Lib.hid (show slwN U b k (j + 1) = slwN U b k j by rw [HSC.out, h1, if_neg (by rw [← HS.out]; omega)])
            clear h0 h1 h2
            simp only [Option.getD_none, Option.isSome_none]
            go_wp2
            go_roundw
            case rel => exact ⟨j + 1, q, by omega, by go_num, rfl, by rw [HN2.out, ← HS.out], by rw [HN2.out, ← HS.out]; exact HQ.out, B3.out⟩
            case measure => simp [intOf]; omega
          · rw [h0]
            by_cases hgt : s < (t : Int)
            · have HN2 := Lib.hid (show slwN U b k (j + 1) = (j, (t : Int)) by rw [HSC.out, h1, if_pos (by rw [← HS.out]; exact hgt)])
              clear h0 h1 h2
              simp only [Option.getD_some, Option.isSome_some]
              go_wp2
              go_roundw
              case rel => exact ⟨j + 1, P + (j : Int), by omega, by go_num, rfl, by rw [HN2.out], by rw [HN2.out]; exact .inr rfl, B3.out⟩
              case measure => simp [intOf]; omega
            · have HN2 := Lib.hid (show slwN U b k (j + 1) = slwN U b k j by rw [HSC.out, h1, if_neg (by rw [← HS.out]; exact hgt)])
              clear h0 h1 h2
              simp only [Option.getD_some, Option.isSome_some]
              go_wp2
              go_roundw
              case rel => exact ⟨j + 1, q, by omega, by go_num, rfl, by rw [HN2.out, ← HS.out], by rw [HN2.out, ← HS.out]; exact HQ.out, B3.out⟩
              case measure => simp [intOf]; omega
        · obtain rfl : j = N := by omega
          have hw1 : IntKind.i64.wrap (P + (j : Int)) = P + (j : Int) := IntWalk.i64_in _ (by omega)
          have HQ2 := Lib.hid (show q = P + (I : Int) by
            rcases HQ.out with h | h
            · have := HTT.out; omega
            · rw [HII.out]; exact h)
          have HTX := HTT.out
          rw [← HTX]
          clear HTX
          go_wp2
          go_ret3
          exact ⟨by rw [HQ2.out]; rfl, HB.out⟩
    · have hm' : okM m = false := by simpa using hm
      have HM := Lib.hid hm'
      have ha := okSS_no2 (V := V) (b := b) hm'
      have e1 : SL1 V b m = 0 := if_neg (by rw [ha]; simp)
      have e2 : SL2 V b m = 0 := if_neg (by rw [ha]; simp)
      rw [e1, e2, ha]
      obtain ⟨U, rfl, hs⟩ := okSp_sp ho
      have HFR := Lib.hid (fun w => rvFrom_yes U b w hs)
      obtain ⟨_, n1, n2⟩ := hs.cn
      obtain ⟨N, hN⟩ : ∃ N, N = cnN U b := ⟨_, rfl⟩
      rw [← hN] at HFR n1
      have hn0 : ((N : Int) == 0) = false := beq_no (by omega)
      clear ho hm hm' hs hN ha e1 e2
      go_enter Try.func32, Try.ntmps32
      go_wp2_with (first
        | (go_at_call 75; go_loud (refine (HFR.out _).mono ?_; rintro e w1 ⟨rfl, rfl⟩))
        | (go_at_call 63; go_loud (refine (rvMost_any _ _).mono ?_; rw [HM.out]; rintro e w1 ⟨rfl, rfl⟩)))
      go_ret3
      exact ⟨rfl, Below.refl _ _⟩
  · have ho' : okSp V b = false := by simpa using ho
    have HO := Lib.hid ho'
    have ha := okSS_no1 (m := m) ho'
    have e1 : SL1 V b m = 0 := if_neg (by rw [ha]; simp)
    have e2 : SL2 V b m = 0 := if_neg (by rw [ha]; simp)
    rw [e1, e2, ha]
    clear ho ho' ha e1 e2
    go_enter Try.func32, Try.ntmps32
    go_wp2_with (go_at_call 75; go_loud (refine (rvFrom_no _ _ _ HO.out).mono ?_; rintro e w1 ⟨rfl, rfl⟩))
    go_ret3
    exact ⟨rfl, Below.refl _ _⟩

end Go.Proofs.Ytnggfcopndcppaa
