/-
  The model's SlowestNumber.
-/
import Derived.Test.YteadgaecjoenlaaT4
namespace Go.Proofs.Yteadgaecjoenlaa
open Go.RowKit
set_option linter.unusedVariables false
set_option linter.unusedSimpArgs false
set_option maxRecDepth 100000

theorem slwN_succ (V : Nat) (b : Int) (m n : Nat) : slwN V b m (n + 1) = if (slwN V b m n).2 < tmZ V b m n then (n, tmZ V b m n) else slwN V b m n := rfl

theorem spec_SlowestNumber (V b m : Int) (w : World) :
    Calls Try.prog 40 #[.int .i64 V, .int .i64 b, .int .i64 m] w fun e w' => e = .returned (VAL_SlowestNumber V b m) ∧ Below w.heap.size w w' := by
  unfold VAL_SlowestNumber
  by_cases ho : okSp V b = true
  · by_cases hm : okM m = true
    · have HM := Lib.hid hm
      have ha := okSS_yes ho hm
      have e1 : SL1 V b m = b ^ (V.toNat - 1) + ((slwN V.toNat b m.toNat (cnN V.toNat b)).1 : Int) := if_pos ha
      have e2 : SL2 V b m = (slwN V.toNat b m.toNat (cnN V.toNat b)).2 := if_pos ha
      rw [e1, e2, ha]
      obtain ⟨U, rfl, hs⟩ := okSp_sp ho
      obtain ⟨k, rfl, hk⟩ := okM_nat hm
      rw [Int.toNat_natCast, Int.toNat_natCast]
      have HFR := Lib.hid (fun w => rvFrom_yes U b w hs)
      obtain ⟨s0, s1, _, _, _⟩ := slw_end hs k
      have hb2 := hs.b2
      have hb16 := hs.b16
      obtain ⟨l1, l2⟩ := hs.least
      obtain ⟨_, n1, n2⟩ := hs.cn
      have HSTP := Lib.hid (fun (i : Nat) (hi : i < 20000) (v : Value) (B : Nat) (w' : World) (h : Rd w' B v (dgs b (b ^ (U - 1) + (i : Int)))) =>
        show Calls Try.prog 58 #[v, .int .i64 b, .int .i64 (k : Int)] w' fun e w'' => e = .returned (.tuple #[.int .i64 (((tmW U b k i).getD 0 : Nat) : Int), .bool (tmW U b k i).isSome]) ∧ Below w'.heap.size w' w'' from rvSteps_any v (dgs b (b ^ (U - 1) + (i : Int))) b k B w' h (dgs_Dg b _ hb2 hb16 (by omega) (by omega)) hk)
      have HBD := Lib.hid (show ∀ n, -1 ≤ (slwN U b k n).2 ∧ (slwN U b k n).2 ≤ 100 from fun n => by
        obtain ⟨h1, h2, h3⟩ := slwN_spec U b k n
        refine ⟨h2, ?_⟩
        rcases h3 with h3 | ⟨_, h3, _⟩
        · omega
        · have := (tmZ_bd U b k (slwN U b k n).1).2
          omega)
      obtain ⟨P, hP⟩ : ∃ P, P = b ^ (U - 1) := ⟨_, rfl⟩
      obtain ⟨N, hN⟩ : ∃ N, N = cnN U b := ⟨_, rfl⟩
      rw [← hN] at HFR n1 n2 s0 s1
      rw [← hN, ← hP]
      rw [← hP] at HFR l1 l2 HSTP
      obtain ⟨I, hI⟩ : ∃ I, I = (slwN U b k N).1 := ⟨_, rfl⟩
      obtain ⟨T, hT⟩ : ∃ T, T = (slwN U b k N).2 := ⟨_, rfl⟩
      rw [← hI, ← hT]
      rw [← hI] at s1
      rw [← hT] at s0
      have HII := Lib.hid hI
      have HTT := Lib.hid hT
      have hn0 : ((N : Int) == 0) = false := beq_no (by omega)
      clear ho hm ha hs hP hN hI hT e1 e2
      go_enter Try.func40, Try.ntmps40
      go_wp2_with (first
        | (go_at_call 70; go_loud (refine (HFR.out _).mono ?_; rintro e w1 ⟨rfl, rfl⟩))
        | (go_at_call 57; go_loud (refine (rvMost_any _ _).mono ?_; rw [HM.out]; rintro e w1 ⟨rfl, rfl⟩)))
      go_loopw [11, 12, 13] (fun bv st i wr => ∃ (j : Nat) (q : Int), j ≤ N ∧ i = .int .i64 (P + (j : Int)) ∧ bv = .int .i64 q ∧ st = .int .i64 (slwN U b k j).2 ∧ ((slwN U b k j).2 = -1 ∨ q = P + ((slwN U b k j).1 : Int)) ∧ Below w.heap.size w wr) (fun _ _ i _ => (P + N - intOf i).toNat)
      case atStart => exact ⟨0, 0, Nat.zero_le _, by simp, rfl, rfl, .inl rfl, Below.refl _ _⟩
      case round =>
        obtain ⟨j, q, hj, rfl, rfl, rfl, hq, hb⟩ := hrel
        have HB := Lib.hid hb
        have HQ := Lib.hid hq
        have hst := HBD.out j
        clear hb hq
        by_cases hlt : j < N
        · have hltI : P + (j : Int) < P + (N : Int) := by omega
          have hw1 : IntKind.i64.wrap (P + (N : Int)) = P + (N : Int) := IntWalk.i64_in _ (by omega)
          have HTC := Lib.hid (tmW_cases U b k j)
          have HSJ := Lib.hid (HSTP.out j (by omega))
          have HSC := Lib.hid (slwN_succ U b k j)
          obtain ⟨s, hs⟩ : ∃ s, s = (slwN U b k j).2 := ⟨_, rfl⟩
          have HS := Lib.hid hs
          rw [← hs] at hst HQ
          rw [← hs]
          obtain ⟨st1, st2⟩ := hst
          clear hs
          go_wp2_with fail
          refine (dgOf_any (P + (j : Int)) b _ (by omega) (by omega) hb2 hb16).mono ?_
          rintro e w2 ⟨u2, rfl, hr2, hb2'⟩
          obtain ⟨a2, c2, hu2⟩ := hr2.sl.len
          subst hu2
          have B2 := Lib.hid (Below.step HB.out HB.out.size hb2')
          have D2 := Lib.hid hr2
          clear hr2 hb2'
          go_wp2_with fail
          refine (HSJ.out _ _ _ D2.out).mono ?_
          rintro e w3 ⟨rfl, hb3⟩
          have B3 := Lib.hid (Below.step B2.out B2.out.size hb3)
          clear hb3
          rcases HTC.out with ⟨h0, h1, h2⟩ | ⟨t, h0, h1, h2, h3⟩
          · rw [h0]
            have HN2 := Lib.hid (show slwN U b k (j + 1) = slwN U b k j by rw [HSC.out, h1, if_neg (by rw [← HS.out]; omega)])
            clear h0 h1 h2
            simp only [Option.getD_none, Option.isSome_none]
            go_wp2
            go_roundw
            case rel => exact ⟨j + 1, q, by omega, by go_num, rfl, by rw [HN2.out, ← HS.out], by rw [HN2.out, ← HS.out]; exact HQ.out, B3.out⟩
            case measure => simp [intOf]; omega
          · rw [h0]
            by_cases hgt : s < (t : Int)
            · have HN2 := Lib.hid (show slwN U b k (j + 1) = (j, (t : Int)) by rw [HSC.out, h1, if_pos (by rw [← HS.out]; exact hgt)])
              clear h0 h1 h2
              simp only [Option.getD_some, Option.isSome_some]
              go_wp2
              go_roundw
              case rel => exact ⟨j + 1, P + (j : Int), by omega, by go_num, rfl, by rw [HN2.out], by rw [HN2.out]; exact .inr rfl, B3.out⟩
              case measure => simp [intOf]; omega
            · have HN2 := Lib.hid (show slwN U b k (j + 1) = slwN U b k j by rw [HSC.out, h1, if_neg (by rw [← HS.out]; exact hgt)])
              clear h0 h1 h2
              simp only [Option.getD_some, Option.isSome_some]
              go_wp2
              go_roundw
              case rel => exact ⟨j + 1, q, by omega, by go_num, rfl, by rw [HN2.out, ← HS.out], by rw [HN2.out, ← HS.out]; exact HQ.out, B3.out⟩
              case measure => simp [intOf]; omega
        · obtain rfl : j = N := by omega
          have hw1 : IntKind.i64.wrap (P + (j : Int)) = P + (j : Int) := IntWalk.i64_in _ (by omega)
          have HQ2 := Lib.hid (show q = P + (I : Int) by
            rcases HQ.out with h | h
            · have := HTT.out; omega
            · rw [HII.out]; exact h)
          have HTX := HTT.out
          rw [← HTX]
          clear HTX
          go_wp2
          go_ret3
          exact ⟨by rw [HQ2.out]; rfl, HB.out⟩
    · have hm' : okM m = false := by simpa using hm
      have HM := Lib.hid hm'
      have ha := okSS_no2 (V := V) (b := b) hm'
      have e1 : SL1 V b m = 0 := if_neg (by rw [ha]; simp)
      have e2 : SL2 V b m = 0 := if_neg (by rw [ha]; simp)
      rw [e1, e2, ha]
      obtain ⟨U, rfl, hs⟩ := okSp_sp ho
      have HFR := Lib.hid (fun w => rvFrom_yes U b w hs)
      obtain ⟨_, n1, n2⟩ := hs.cn
      obtain ⟨N, hN⟩ : ∃ N, N = cnN U b := ⟨_, rfl⟩
      rw [← hN] at HFR n1
      have hn0 : ((N : Int) == 0) = false := beq_no (by omega)
      clear ho hm hm' hs hN ha e1 e2
      go_enter Try.func40, Try.ntmps40
      go_wp2_with (first
        | (go_at_call 70; go_loud (refine (HFR.out _).mono ?_; rintro e w1 ⟨rfl, rfl⟩))
        | (go_at_call 57; go_loud (refine (rvMost_any _ _).mono ?_; rw [HM.out]; rintro e w1 ⟨rfl, rfl⟩)))
      go_ret3
      exact ⟨rfl, Below.refl _ _⟩
  · have ho' : okSp V b = false := by simpa using ho
    have HO := Lib.hid ho'
    have ha := okSS_no1 (m := m) ho'
    have e1 : SL1 V b m = 0 := if_neg (by rw [ha]; simp)
    have e2 : SL2 V b m = 0 := if_neg (by rw [ha]; simp)
    rw [e1, e2, ha]
    clear ho ho' ha e1 e2
    go_enter Try.func40, Try.ntmps40
    go_wp2_with (go_at_call 70; go_loud (refine (rvFrom_no _ _ _ HO.out).mono ?_; rintro e w1 ⟨rfl, rfl⟩))
    go_ret3
    exact ⟨rfl, Below.refl _ _⟩

end Go.Proofs.Yteadgaecjoenlaa
