/-
  The model's StepsSpread; SlowestNumber.
-/
import Derived.Test.YteadgaecjoenlaaT2
namespace Go.Proofs.Yteadgaecjoenlaa
open Go.RowKit
set_option linter.unusedVariables false
set_option linter.unusedSimpArgs false
set_option maxRecDepth 100000

theorem tmW_cases (V : Nat) (b : Int) (m i : Nat) : (tmW V b m i = none ∧ tmZ V b m i = -1 ∧ ixT m (tmW V b m i) = m + 1) ∨ (∃ k : Nat, tmW V b m i = some k ∧ tmZ V b m i = (k : Int) ∧ ixT m (tmW V b m i) = k ∧ k ≤ m) := by
  unfold tmZ
  cases h : tmW V b m i with
  | none => exact .inl ⟨rfl, rfl, rfl⟩
  | some k => exact .inr ⟨k, rfl, rfl, rfl, rvT_le h⟩

theorem spec_StepsSpread (V b m : Int) (w : World) :
    Calls Try.prog 38 #[.int .i64 V, .int .i64 b, .int .i64 m] w fun e w' => ∃ u, e = .returned (.tuple #[u, .bool (OK_StepsSpread V b m)]) ∧ Rd w' w.heap.size u (LF_StepsSpread V b m) ∧ Below w.heap.size w w' := by
  unfold OK_StepsSpread
  by_cases ho : okSp V b = true
  · by_cases hm : okM m = true
    · have HM := Lib.hid hm
      have ha := okSS_yes ho hm
      rw [LFS_yes ha, ha]
      obtain ⟨U, rfl, hs⟩ := okSp_sp ho
      obtain ⟨k, rfl, hk⟩ := okM_nat hm
      rw [Int.toNat_natCast, Int.toNat_natCast]
      have HFR := Lib.hid (fun w => rvFrom_yes U b w hs)
      have hb2 := hs.b2
      have hb16 := hs.b16
      obtain ⟨l1, l2⟩ := hs.least
      obtain ⟨_, n1, n2⟩ := hs.cn
      have HSTP := Lib.hid (fun (i : Nat) (hi : i < 20000) (v : Value) (B : Nat) (w' : World) (h : Rd w' B v (dgs b (b ^ (U - 1) + (i : Int)))) =>
        show Calls Try.prog 58 #[v, .int .i64 b, .int .i64 (k : Int)] w' fun e w'' => e = .returned (.tuple #[.int .i64 (((tmW U b k i).getD 0 : Nat) : Int), .bool (tmW U b k i).isSome]) ∧ Below w'.heap.size w' w'' from rvSteps_any v (dgs b (b ^ (U - 1) + (i : Int))) b k B w' h (dgs_Dg b _ hb2 hb16 (by omega) (by omega)) hk)
      obtain ⟨P, hP⟩ : ∃ P, P = b ^ (U - 1) := ⟨_, rfl⟩
      obtain ⟨N, hN⟩ : ∃ N, N = cnN U b := ⟨_, rfl⟩
      obtain ⟨M, hM⟩ : ∃ M, M = k + 2 := ⟨_, rfl⟩
      obtain ⟨L, hL⟩ : ∃ L, L = sprN U b k (cnN U b) := ⟨_, rfl⟩
      rw [← hN] at HFR n1 n2
      rw [← hP] at HFR l1 l2 HSTP
      rw [← hL]
      rw [← hN] at hL
      have HLL := Lib.hid hL
      have HMM := Lib.hid hM
      have hM2 : M ≤ 102 := by omega
      have HMI := Lib.hid (show (k : Int) + 2 = (M : Int) by omega)
      have hn0 : ((N : Int) == 0) = false := beq_no (by omega)
      have HR0 := Lib.hid (show List.replicate M (0:Int) = sprN U b k 0 by rw [hM]; rfl)
      clear ho hm ha hs hP hN hM hL
      go_enter Try.func38, Try.ntmps38
      go_wp2_with (first
        | (go_at_call 70; go_loud (refine (HFR.out _).mono ?_; rintro e w1 ⟨rfl, rfl⟩))
        | (go_at_call 57; go_loud (refine (rvMost_any _ _).mono ?_; rw [HM.out]; rintro e w1 ⟨rfl, rfl⟩))
        | (at_make; go_loud (refine wpList_mkR rfl _ _ rfl .i64 .i64 _ _ M rfl rfl (by have h := HMI.out; first | exact h | go_num) (by have h := HMI.out; first | exact h | go_num) (by omega) ?_; intro w1 hr1 hg1 hb1; have R1 := Lib.hid hr1; have B1 := Lib.hid hb1; clear hr1 hg1 hb1)))
      go_loopw [11] (fun i wr => ∃ j : Nat, j ≤ N ∧ i = .int .i64 (P + (j : Int)) ∧ Rd wr w.heap.size (.slice (some ⟨w.heap.size, 0, none⟩) M M) (sprN U b k j) ∧ Below w.heap.size w wr) (fun i _ => (P + N - intOf i).toNat)
      case atStart => exact ⟨0, Nat.zero_le _, by simp, by rw [← HR0.out]; exact R1.out, B1.out⟩
      case round =>
        obtain ⟨j, hj, rfl, hr, hb⟩ := hrel
        have HR := Lib.hid hr
        have HB := Lib.hid hb
        clear hr hb
        by_cases hlt : j < N
        · have hltI : P + (j : Int) < P + (N : Int) := by omega
          have hw1 : IntKind.i64.wrap (P + (N : Int)) = P + (N : Int) := IntWalk.i64_in _ (by omega)
          have hx := ixT_lt U b k j
          have HTC := Lib.hid (tmW_cases U b k j)
          have HSJ := Lib.hid (HSTP.out j (by omega))
          go_wp2_with fail
          refine (dgOf_any (P + (j : Int)) b _ (by omega) (by omega) hb2 hb16).mono ?_
          rintro e w2 ⟨u2, rfl, hr2, hb2'⟩
          obtain ⟨a2, c2, hu2⟩ := hr2.sl.len
          subst hu2
          have HR2 := Lib.hid (HR.out.keep hb2')
          have B2 := Lib.hid (Below.step HB.out HB.out.size hb2')
          have D2 := Lib.hid hr2
          clear hr2 hb2'
          go_wp2_with fail
          refine (HSJ.out _ _ _ D2.out).mono ?_
          rintro e w3 ⟨rfl, hb3⟩
          have HR3 := Lib.hid (HR2.out.keep hb3)
          have B3 := Lib.hid (Below.step B2.out B2.out.size hb3)
          clear hb3
          obtain ⟨x, hxx⟩ : ∃ x, x = ixT k (tmW U b k j) := ⟨_, rfl⟩
          have HX := Lib.hid hxx
          rw [← hxx] at hx HTC
          have hxM : x < M := by have := HMM.out; omega
          have hlen := sprN_len U b k j
          have hq0 : w3.cell? ⟨w.heap.size, x, none⟩ = some (.int .i64 ((sprN U b k j).getD x 0)) := by
            rw [HR3.out.at.2.2.2.2.1 x (by rw [hlen]; have := HMM.out; omega), List.getD_eq_getElem?_getD, List.getElem?_eq_getElem (by rw [hlen]; have := HMM.out; omega)]; rfl
          have hqb := sprN_bd U b k j x
          have hfz := HR3.out.at.2.2.2.2.2 x
          obtain ⟨q, hq⟩ : ∃ q, q = (sprN U b k j).getD x 0 := ⟨_, rfl⟩
          rw [← hq] at hq0 hqb
          obtain ⟨q1, q2⟩ := hqb
          have HST := Lib.hid (show (sprN U b k j).set x (q + 1) = sprN U b k (j + 1) by rw [hq, hxx]; rfl)
          have HRS := Lib.hid (HR3.out.set x (q + 1))
          have HBS := Lib.hid (B3.out.setCell (p := ⟨w.heap.size, x, none⟩) (Nat.le_refl _) (.int .i64 (q + 1)))
          clear hxx hlen hq
          rcases HTC.out with ⟨h0, h1, h2⟩ | ⟨t, h0, h1, h2, h3⟩
          · rw [h0]
            have HX1 := Lib.hid (show (k : Int) + 1 = (x : Int) by omega)
            have hwx : IntKind.i64.wrap ((k : Int) + 1) = (x : Int) := by rw [IntWalk.i64_in _ (by omega)]; omega
            have hwx2 : wrap64 ((k : Int) + 1) = (x : Int) := by rw [IntWalk.wrap64_in _ (by omega)]; omega
            clear h0 h1 h2 hx
            simp only [Option.getD_none, Option.isSome_none]
            go_wp2
            go_roundw
            case rel => exact ⟨j + 1, by omega, by go_num, by rw [← HST.out]; exact HRS.out.1, HBS.out⟩
            case measure => simp [intOf]; omega
          · rw [h0]
            subst h2
            clear h0 h1 h3 hx
            simp only [Option.getD_some, Option.isSome_some]
            go_wp2
            go_roundw
            case rel => exact ⟨j + 1, by omega, by go_num, by rw [← HST.out]; exact HRS.out.1, HBS.out⟩
            case measure => simp [intOf]; omega
        · obtain rfl : j = N := by omega
          have hw1 : IntKind.i64.wrap (P + (j : Int)) = P + (j : Int) := IntWalk.i64_in _ (by omega)
          go_wp2
          go_ret2
          exact ⟨_, rfl, by rw [HLL.out]; exact HR.out, HB.out⟩
    · have hm' : okM m = false := by simpa using hm
      have HM := Lib.hid hm'
      rw [LFS_no (okSS_no2 hm'), okSS_no2 hm']
      obtain ⟨U, rfl, hs⟩ := okSp_sp ho
      have HFR := Lib.hid (fun w => rvFrom_yes U b w hs)
      obtain ⟨_, n1, n2⟩ := hs.cn
      obtain ⟨N, hN⟩ : ∃ N, N = cnN U b := ⟨_, rfl⟩
      rw [← hN] at HFR n1
      have hn0 : ((N : Int) == 0) = false := beq_no (by omega)
      clear ho hm hm' hs hN
      go_enter Try.func38, Try.ntmps38
      go_wp2_with (first
        | (go_at_call 70; go_loud (refine (HFR.out _).mono ?_; rintro e w1 ⟨rfl, rfl⟩))
        | (go_at_call 57; go_loud (refine (rvMost_any _ _).mono ?_; rw [HM.out]; rintro e w1 ⟨rfl, rfl⟩)))
      go_ret2
      exact ⟨_, rfl, Rd.nil _ _, Below.refl _ _⟩
  · have ho' : okSp V b = false := by simpa using ho
    have HO := Lib.hid ho'
    rw [LFS_no (okSS_no1 ho'), okSS_no1 ho']
    clear ho ho'
    go_enter Try.func38, Try.ntmps38
    go_wp2_with (go_at_call 70; go_loud (refine (rvFrom_no _ _ _ HO.out).mono ?_; rintro e w1 ⟨rfl, rfl⟩))
    go_ret2
    exact ⟨_, rfl, Rd.nil _ _, Below.refl _ _⟩

theorem LF_StepsSpread_len (V b m : Int) : (LF_StepsSpread V b m).length ≤ 2000000 := by
  by_cases h : okSS V b m = true
  · rw [LFS_yes h, sprN_len]
    unfold okSS at h
    rw [Bool.and_eq_true] at h
    have := of_decide_eq_true h.2
    omega
  · rw [LFS_no (by simpa using h)]; simp

end Go.Proofs.Yteadgaecjoenlaa
