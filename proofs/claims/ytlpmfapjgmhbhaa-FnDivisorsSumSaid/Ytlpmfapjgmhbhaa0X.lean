/-
  The law of divisors, walked.
-/
import Derived.Test.Ytlpmfapjgmhbhaa8H
import Derived.Test.Ytlpmfapjgmhbhaa0W
namespace Go.Proofs.Ytlpmfapjgmhbhaa
open Go.RowKit
set_option linter.unusedVariables false
set_option linter.unusedSimpArgs false
set_option maxRecDepth 100000

theorem rd_form' {w : World} {B : Nat} {v : Value} {xs : List Int} (h : Rd w B v xs) : ∃ a cap, v = .slice a xs.length cap ∧ (xs.length = 0 ∨ ∃ g, a = some ⟨g, 0, none⟩) := by
  by_cases h1 : 1 ≤ xs.length
  · obtain ⟨g, cap, hv, _⟩ := rd_some h h1
    exact ⟨_, cap, hv, .inr ⟨g, rfl⟩⟩
  · rcases h.cases with ⟨hv, hx⟩ | ⟨g, cap, hu, _, _, h9, _⟩
    · rw [hx]; exact ⟨none, 0, hv, .inl rfl⟩
    · exact ⟨_, cap, hu, .inr ⟨g, rfl⟩⟩

set_option maxHeartbeats 4000000 in
theorem law_DivisorsSum {W : World} (v0 : Value) (xs0 : List Int) (hs0 : Sb W v0 xs0) (v1 : Value) (xs1 : List Int) (hs1 : Sb W v1 xs1) :
    Calls Try.prog 5 #[v0, v1] W fun e w' => e = .returned (.bool true) ∧ Below W.heap.size W w' := by
  have HS0 := Lib.hid hs0
  have HS1 := Lib.hid hs1
  obtain ⟨a0, c0, rfl⟩ := hs0.len
  obtain ⟨a1, c1, rfl⟩ := hs1.len
  clear hs0 hs1
  by_cases hbig : 1048576 < xs0.length ∨ 1048576 < xs0.length + xs1.length
  · have HBG := Lib.hid (big_any a0 a1 xs0.length xs1.length c0 c1 W)
    rw [decide_eq_true hbig] at HBG
    obtain ⟨n0, hn0⟩ : ∃ n0, n0 = xs0.length := ⟨_, rfl⟩
    obtain ⟨n1, hn1⟩ : ∃ n1, n1 = xs1.length := ⟨_, rfl⟩
    rw [← hn0, ← hn1] at HBG ⊢
    clear hbig hn0 hn1 HS0 HS1
    go_enter Try.func5, Try.ntmps5
    go_wp2_with (go_at_call 6; refine HBG.out.mono ?_; rintro e w1 ⟨rfl, rfl⟩)
    go_ret
    exact ⟨rfl, Below.refl _ _⟩
  · have HBG := Lib.hid (big_any a0 a1 xs0.length xs1.length c0 c1 W)
    rw [decide_eq_false hbig] at HBG
    have hl0 : xs0.length ≤ 1048576 := by omega
    have hl1 : xs1.length ≤ 1048576 := by omega
    clear hbig
    go_enter Try.func5, Try.ntmps5
    go_wp2_with (go_at_call 6; refine HBG.out.mono ?_; rintro e w1 ⟨rfl, rfl⟩)
    refine (draw_SumOfDivisors _ xs0 _ HS0.out hl0).mono ?_
    rintro e w1 ⟨n, rfl, hb⟩
    have B1 := Lib.hid hb
    clear hb HBG
    have HIS := Lib.hid (fun w' => impl_SumOfDivisors n w')
    have HSS := Lib.hid (fun w' => spec_SumOfDivisors n w')
    have HIC := Lib.hid (fun w' => impl_CountDivisors n w')
    have HSC := Lib.hid (fun w' => spec_CountDivisors n w')
    have HIP := Lib.hid (fun w' => impl_ProperSum n w')
    have HSP := Lib.hid (fun w' => spec_ProperSum n w')
    have HIK := Lib.hid (fun w' => impl_KindOfNumber n w')
    have HSK := Lib.hid (fun w' => spec_KindOfNumber n w')
    have HIF := Lib.hid (fun w' => impl_PrimeFactors n w')
    have HSF := Lib.hid (fun w' => spec_PrimeFactors n w')
    by_cases hok : Dv n
    · rw [dvR_yes hok] at HIS HSS HIC HSC HIP HSP HIK HSK
      rw [show OK_PrimeFactors n = true from decide_eq_true hok, show LF_PrimeFactors n = fac n from if_pos hok] at HIF HSF
      have FF := Lib.hid (fac_facts hok)
      have HD := Lib.hid hok
      have hn1 := hok.1
      have hn2 := hok.2
      have hpb := prop_bd (n := n) (by omega) hn2
      have HK0 := Lib.hid (show (knd n == 0) = (prop n == n) by
        unfold knd
        by_cases c1 : prop n < n
        · rw [if_pos c1, beq_no (show ¬ prop n = n by omega)]; rfl
        · by_cases c2 : n < prop n
          · rw [if_neg c1, if_pos c2, beq_no (show ¬ prop n = n by omega)]; rfl
          · rw [if_neg c1, if_neg c2, beq_yes (show prop n = n by omega)]; rfl)
      have HK1 := Lib.hid (show decide (knd n < 0) = decide (prop n < n) by
        unfold knd
        by_cases c1 : prop n < n
        · rw [if_pos c1, decide_eq_true c1]; rfl
        · by_cases c2 : n < prop n
          · rw [if_neg c1, if_pos c2, decide_eq_false c1]; rfl
          · rw [if_neg c1, if_neg c2, decide_eq_false c1]; rfl)
      have HSN := Lib.hid (show sgN n = prop n + n by unfold sgN prop; omega)
      have HAS := Lib.hid (show smT (fun e => if n % e = 0 then e else 0) n.toNat = sgN n from sgL_all (by omega))
      have HAC := Lib.hid (show smT (fun e => if n % e = 0 then 1 else 0) n.toNat = ctN n from ctL_all (by omega))
      have HMS := Lib.hid (fun (m : Int) (hm : 0 < m) (hc : Cop n m) => (show sgN (n * m) = sgN n * sgN m from sgL_mul (by omega) hm hc))
      have HMC := Lib.hid (fun (m : Int) (hm : 0 < m) (hc : Cop n m) => (show ctN (n * m) = ctN n * ctN m from ctL_mul (by omega) hm hc))
      obtain ⟨S, hS⟩ : ∃ S, S = sgN n := ⟨_, rfl⟩
      obtain ⟨C, hC⟩ : ∃ C, C = ctN n := ⟨_, rfl⟩
      obtain ⟨P, hP⟩ : ∃ P, P = prop n := ⟨_, rfl⟩
      obtain ⟨K, hK⟩ : ∃ K, K = knd n := ⟨_, rfl⟩
      obtain ⟨l, hl⟩ : ∃ l, l = fac n := ⟨_, rfl⟩
      rw [← hS] at HIS HSS HSN HAS HMS
      rw [← hC] at HIC HSC HAC HMC
      rw [← hP] at HIP HSP HK0 HK1 HSN hpb
      rw [← hK] at HIK HSK HK0 HK1
      rw [← hl] at HIF HSF FF
      obtain ⟨hp0, hp1, hp2, hp3⟩ := hpb
      clear hS hC hP hK hl hok hp2 hp3
      go_wp2_with fail
      refine (HIS.out _).mono ?_
      rintro e w2 ⟨rfl, hb⟩
      have B2 := Lib.hid (Below.step B1.out B1.out.size hb)
      clear hb
      go_wp2_with fail
      refine (HSS.out _).mono ?_
      rintro e w3 ⟨rfl, hb⟩
      have B3 := Lib.hid (Below.step B2.out B2.out.size hb)
      clear hb
      go_wp2_with fail
      refine (HIC.out _).mono ?_
      rintro e w4 ⟨rfl, hb⟩
      have B4 := Lib.hid (Below.step B3.out B3.out.size hb)
      clear hb
      go_wp2_with fail
      refine (HSC.out _).mono ?_
      rintro e w5 ⟨rfl, hb⟩
      have B5 := Lib.hid (Below.step B4.out B4.out.size hb)
      clear hb
      go_wp2_with fail
      refine (HIP.out _).mono ?_
      rintro e w6 ⟨rfl, hb⟩
      have B6 := Lib.hid (Below.step B5.out B5.out.size hb)
      clear hb
      go_wp2_with fail
      refine (HSP.out _).mono ?_
      rintro e w7 ⟨rfl, hb⟩
      have B7 := Lib.hid (Below.step B6.out B6.out.size hb)
      clear hb
      go_wp2_with fail
      refine (HIK.out _).mono ?_
      rintro e w8 ⟨rfl, hb⟩
      have B8 := Lib.hid (Below.step B7.out B7.out.size hb)
      clear hb
      go_wp2_with fail
      refine (HSK.out _).mono ?_
      rintro e w9 ⟨rfl, hb⟩
      have B9 := Lib.hid (Below.step B8.out B8.out.size hb)
      clear hb
      go_wp2_with fail
      refine (HIF.out _).mono ?_
      rintro e w10 ⟨vf, rfl, hr, hb⟩
      have R10 := Lib.hid (hr.mono B9.out.size)
      have B10 := Lib.hid (Below.step B9.out B9.out.size hb)
      clear hr hb
      go_wp2_with fail
      refine (HSF.out _).mono ?_
      rintro e w11 ⟨vg, rfl, hr, hb⟩
      have R11 := Lib.hid (R10.out.keep hb)
      have Q11 := Lib.hid (hr.mono B10.out.size)
      have B11 := Lib.hid (Below.step B10.out B10.out.size hb)
      clear hr hb
      go_wp2_with fail
      refine (qSame_any _ _ l _ R11.out.sl Q11.out.sl (by have := FF.out.len; omega)).mono ?_
      rintro e w12 ⟨rfl, hb⟩
      have R12 := Lib.hid (R11.out.keep hb)
      have B12 := Lib.hid (Below.step B11.out B11.out.size hb)
      clear hb R10 R11 Q11 HIS HSS HIC HSC HIP HSP HIK HSK HIF HSF
      obtain ⟨ax, cx, rfl, hax⟩ := rd_form' R12.out
      have HAX := Lib.hid hax
      have hL40 := FF.out.len
      obtain ⟨L, hL⟩ : ∃ L, L = l.length := ⟨_, rfl⟩
      rw [← hL] at R12 HAX hL40 ⊢
      have HL := Lib.hid hL
      clear hax hL
      go_wp2
      go_loopw [26, 170] (fun pv i wr => ∃ (k : Nat) (pr : Int), k ≤ L ∧ pv = .int .i64 pr ∧ pr = pdL (l.take k) ∧ i = .int .i64 (k : Int) ∧ Below w12.heap.size w12 wr) (fun _ i _ => L - (intOf i).toNat)
      case atStart => exact ⟨0, 1, Nat.zero_le _, rfl, rfl, rfl, Below.refl _ _⟩
      case round =>
        obtain ⟨k, pr, hk, rfl, hpr, rfl, hb⟩ := hrel
        have HB := Lib.hid hb
        have HPR := Lib.hid hpr
        have hprb := FF.out.bd k (by rw [← HL.out]; exact hk)
        rw [← hpr] at hprb
        obtain ⟨hpr1, hpr2⟩ := hprb
        clear hb hpr
        by_cases hlt : k < L
        · rcases HAX.out with hx | ⟨g, rfl⟩
          · exact absurd hx (by omega)
          have HCS := Lib.hid (show ∀ (w' : World), Below w12.heap.size w12 w' → ∀ j, j < L → w'.cell? ⟨g, j, none⟩ = some (.int .i64 (l.getD j 0)) from fun w' hb j hj => by
            have := rd_get (R12.out.keep hb) j (by rw [← HL.out]; exact hj)
            rwa [Nat.zero_add] at this)
          have hca := HCS.out _ HB.out k hlt
          obtain ⟨o1, o2, o3, o4⟩ := FF.out.one k (by rw [← HL.out]; exact hlt)
          have HST := Lib.hid (FF.out.step k (by rw [← HL.out]; exact hlt))
          rw [← HPR.out] at HST
          have HIO := Lib.hid (fun w' => impl_PrimeFactors (l.getD k 0) w')
          rw [o1, o2] at HIO
          by_cases h0 : 0 < k
          · have hi0 : (0 : Int) < (k : Int) := by omega
            obtain ⟨j, hj⟩ : ∃ j, k = j + 1 := ⟨k - 1, by omega⟩
            have hris := FF.out.rise j (by rw [← HL.out]; omega)
            rw [← hj] at hris
            have HCJ := Lib.hid (fun w' hb => HCS.out w' hb j (by omega))
            obtain ⟨x, hx⟩ : ∃ x, x = l.getD k 0 := ⟨_, rfl⟩
            obtain ⟨x2, hx2⟩ : ∃ x2, x2 = l.getD j 0 := ⟨_, rfl⟩
            rw [← hx] at hca HIO hris o3 o4 HST
            rw [← hx2] at HCJ hris
            have hris2 : ¬ x < x2 := by omega
            have ej2 : (k : Int) - 1 = (j : Int) := by omega
            have hjL : j < L := by omega
            have m0 : 0 ≤ pr * x := Int.mul_nonneg (by omega) (by omega)
            have m1 : pr * x ≤ 1000000000 * 1000000000 := Int.mul_le_mul (by omega) o4 (by omega) (by omega)
            clear hris hx hx2 hj o1 o2
            go_wp2_with (go_at_call 43; refine (HIO.out _).mono ?_; rintro e wk ⟨vo, rfl, hr, hb⟩; obtain ⟨ao, co, hvo⟩ := hr.sl.len; have hvo2 : vo = .slice ao 1 co := hvo; subst hvo2; have HBk := Lib.hid (HB.out.trans (hb.mono HB.out.size)); have hcj := HCJ.out _ HBk.out; clear hb hr hvo)
            go_roundw
            case rel => exact ⟨k + 1, _, by omega, rfl, by rw [HST.out], by go_num, HBk.out⟩
            case measure => simp [intOf]; omega
          · have hi0 : ¬ (0 : Int) < (k : Int) := by omega
            obtain ⟨x, hx⟩ : ∃ x, x = l.getD k 0 := ⟨_, rfl⟩
            rw [← hx] at hca HIO o3 o4 HST
            have m0 : 0 ≤ pr * x := Int.mul_nonneg (by omega) (by omega)
            have m1 : pr * x ≤ 1000000000 * 1000000000 := Int.mul_le_mul (by omega) o4 (by omega) (by omega)
            clear hx o1 o2
            go_wp2_with (go_at_call 43; refine (HIO.out _).mono ?_; rintro e wk ⟨vo, rfl, hr, hb⟩; obtain ⟨ao, co, hvo⟩ := hr.sl.len; have hvo2 : vo = .slice ao 1 co := hvo; subst hvo2; have HBk := Lib.hid (HB.out.trans (hb.mono HB.out.size)); clear hb hr hvo)
            go_roundw
            case rel => exact ⟨k + 1, _, by omega, rfl, by rw [HST.out], by go_num, HBk.out⟩
            case measure => simp [intOf]; omega
        · obtain rfl : k = L := by omega
          have hpn : pr = n := by rw [HPR.out, HL.out]; exact FF.out.all
          subst hpn
          have B13 := Lib.hid (Below.step B12.out B12.out.size HB.out)
          have hnn : (pr != pr) = false := bne_no rfl
          have hk0 := HK0.out
          have hk1 := HK1.out
          have hsn := HSN.out
          clear HPR hpr1 hpr2 HK0 HK1 FF R12 HAX HL hlt hk hL40
          subst hsn
          by_cases h5 : pr ≤ 5000
          · go_wp2
            go_loopw [31, 32, 33] (fun a m d wr => ∃ (k : Nat), (k : Int) ≤ pr ∧ a = .int .i64 (smT (fun e => if pr % e = 0 then e else 0) k) ∧ m = .int .i64 (smT (fun e => if pr % e = 0 then 1 else 0) k) ∧ d = .int .i64 ((k : Int) + 1) ∧ Below w12.heap.size w12 wr) (fun _ _ d _ => (pr + 1 - intOf d).toNat)
            case atStart => exact ⟨0, by omega, rfl, rfl, rfl, HB.out⟩
            case round =>
              obtain ⟨q, hq, rfl, rfl, rfl, hb⟩ := hrel
              have HB2 := Lib.hid hb
              clear hb
              have hsa := smT_bd (f := fun e => if pr % e = 0 then e else 0) (B := 5000) (by omega) q (fun e e1 e2 => by split <;> omega)
              have hsc := smT_bd (f := fun e => if pr % e = 0 then 1 else 0) (B := 1) (by omega) q (fun e e1 e2 => by split <;> omega)
              have HTA := Lib.hid (show smT (fun e => if pr % e = 0 then e else 0) (q + 1) = smT (fun e => if pr % e = 0 then e else 0) q + (if pr % ((q + 1 : Nat) : Int) = 0 then ((q + 1 : Nat) : Int) else 0) from rfl)
              have HTC := Lib.hid (show smT (fun e => if pr % e = 0 then 1 else 0) (q + 1) = smT (fun e => if pr % e = 0 then 1 else 0) q + (if pr % ((q + 1 : Nat) : Int) = 0 then 1 else 0) from rfl)
              by_cases hlt : (q : Int) < pr
              · obtain ⟨sa, hsaE⟩ : ∃ sa, sa = smT (fun e => if pr % e = 0 then e else 0) q := ⟨_, rfl⟩
                obtain ⟨sc, hscE⟩ : ∃ sc, sc = smT (fun e => if pr % e = 0 then 1 else 0) q := ⟨_, rfl⟩
                rw [← hsaE] at hsa HTA ⊢
                rw [← hscE] at hsc HTC ⊢
                obtain ⟨a1', a2'⟩ := hsa
                obtain ⟨c1', c2'⟩ := hsc
                have hq5 : (q : Int) * 5000 ≤ 5000 * 5000 := by omega
                have hle : (q : Int) + 1 ≤ pr := by omega
                have ec : ((q + 1 : Nat) : Int) = (q : Int) + 1 := by omega
                rw [ec] at HTA HTC
                clear hsaE hscE ec
                by_cases hz : pr % ((q : Int) + 1) = 0
                · rw [if_pos hz] at HTA HTC
                  go_wp2
                  go_roundw
                  case rel => exact ⟨q + 1, by omega, by rw [HTA.out], by rw [HTC.out], by go_num, HB2.out⟩
                  case measure => simp [intOf]; omega
                · rw [if_neg hz, Int.add_zero] at HTA HTC
                  go_wp2
                  go_roundw
                  case rel => exact ⟨q + 1, by omega, by rw [HTA.out], by rw [HTC.out], by go_num, HB2.out⟩
                  case measure => simp [intOf]; omega
              · have hqe : q = pr.toNat := by omega
                have hpe : (q : Int) = pr := by omega
                subst hqe
                rw [HAS.out, HAC.out]
                have hgt : ¬ ((pr.toNat : Nat) : Int) + 1 ≤ pr := by omega
                have hcc : (C != C) = false := bne_no rfl
                have hss : (P + pr != P + pr) = false := bne_no rfl
                have B14 := Lib.hid (Below.step B12.out B12.out.size HB2.out)
                clear HTA HTC hsa hsc hlt hq
                go_wp2_with fail
                refine (draw_PrimeFactors _ xs1 _ (HS1.out.keep B14.out) hl1).mono ?_
                rintro e w15 ⟨m, rfl, hb⟩
                have B15 := Lib.hid (Below.step B14.out B14.out.size hb)
                clear hb
                by_cases hm1 : 1 ≤ m
                · by_cases hm2 : m ≤ 1000000000
                  · have mm0 : 0 ≤ pr * m := Int.mul_nonneg (by omega) (by omega)
                    have mm1 : pr * m ≤ 1000000000 * 1000000000 := Int.mul_le_mul hn2 hm2 (by omega) (by omega)
                    by_cases hm3 : pr * m ≤ 1000000000
                    · have HGC := Lib.hid (show ∀ w' : World, Calls Try.prog 46 #[.int .i64 pr, .int .i64 m] w' fun e w'' => e = .returned (.int .i64 (Nat.gcd pr.toNat m.toNat : Int)) ∧ w'' = w' from fun w' => by
                        have := qGcd_any pr.toNat m.toNat w' (by omega) (by omega)
                        rwa [show ((pr.toNat : Nat) : Int) = pr by omega, show ((m.toNat : Nat) : Int) = m by omega] at this)
                      by_cases hg : Nat.gcd pr.toNat m.toNat = 1
                      · have hcop := cop_gcd (by omega) (by omega) hg
                        rw [hg] at HGC
                        have mm2 : 1 ≤ pr * m := by
                          have := Int.mul_le_mul hn1 hm1 (by omega) (by omega)
                          omega
                        have HI1 := Lib.hid (fun w' => impl_SumOfDivisors m w')
                        have HI2 := Lib.hid (fun w' => impl_SumOfDivisors (pr * m) w')
                        have HI3 := Lib.hid (fun w' => impl_CountDivisors m w')
                        have HI4 := Lib.hid (fun w' => impl_CountDivisors (pr * m) w')
                        rw [dvR_yes (show Dv m from ⟨hm1, hm2⟩)] at HI1 HI3
                        rw [dvR_yes (show Dv (pr * m) from ⟨mm2, hm3⟩), HMS.out m (by omega) hcop] at HI2
                        rw [dvR_yes (show Dv (pr * m) from ⟨mm2, hm3⟩), HMC.out m (by omega) hcop] at HI4
                        have hsb : 0 ≤ sgN m * (P + pr) ∧ sgN m * (P + pr) ≤ 1000000000000000000 := by
                          have hb := prop_bd (n := pr * m) (by omega) hm3
                          have e := HMS.out m (by omega) hcop
                          unfold sgN at e ⊢
                          rw [Int.mul_comm, ← e]
                          omega
                        have hcb : 0 ≤ ctN m * C ∧ ctN m * C ≤ 1000000000000000000 := by
                          have e := HMC.out m (by omega) hcop
                          have hb := ct_bd (n := pr * m) (by omega) hm3
                          rw [Int.mul_comm, ← e]
                          exact hb
                        have hse : (P + pr) * sgN m = sgN m * (P + pr) := Int.mul_comm _ _
                        have hce : C * ctN m = ctN m * C := Int.mul_comm _ _
                        rw [hse] at HI2
                        rw [hce] at HI4
                        obtain ⟨s0, s1⟩ := hsb
                        obtain ⟨t0, t1⟩ := hcb
                        obtain ⟨sm, hsm⟩ : ∃ sm, sm = sgN m := ⟨_, rfl⟩
                        obtain ⟨cm, hcm⟩ : ∃ cm, cm = ctN m := ⟨_, rfl⟩
                        rw [← hsm] at HI1 HI2 s0 s1
                        rw [← hcm] at HI3 HI4 t0 t1
                        clear hsm hcm hse hce hcop hg
                        go_wp2_with (go_at_call 46; refine (HGC.out _).mono ?_; rintro e w16 ⟨rfl, rfl⟩)
                        refine (HI1.out _).mono ?_
                        rintro e w17 ⟨rfl, hb⟩
                        have B17 := Lib.hid (Below.step B15.out B15.out.size hb)
                        clear hb
                        go_wp2_with fail
                        refine (HI2.out _).mono ?_
                        rintro e w18 ⟨rfl, hb⟩
                        have B18 := Lib.hid (Below.step B17.out B17.out.size hb)
                        clear hb
                        go_wp2_with fail
                        refine (HI3.out _).mono ?_
                        rintro e w19 ⟨rfl, hb⟩
                        have B19 := Lib.hid (Below.step B18.out B18.out.size hb)
                        clear hb
                        go_wp2_with fail
                        refine (HI4.out _).mono ?_
                        rintro e w20 ⟨rfl, hb⟩
                        have B20 := Lib.hid (Below.step B19.out B19.out.size hb)
                        clear hb
                        go_wp2
                        go_ret
                        exact ⟨by first | rfl | simp, B20.out⟩
                      · have hgn : ((Nat.gcd pr.toNat m.toNat : Int) == 1) = false := beq_no (by omega)
                        obtain ⟨gg, hgg⟩ : ∃ gg : Int, gg = (Nat.gcd pr.toNat m.toNat : Int) := ⟨_, rfl⟩
                        rw [← hgg] at HGC hgn
                        clear hgg hg
                        go_wp2_with (go_at_call 46; refine (HGC.out _).mono ?_; rintro e w16 ⟨rfl, rfl⟩)
                        go_ret
                        exact ⟨rfl, B15.out⟩
                    · go_wp2
                      go_ret
                      exact ⟨rfl, B15.out⟩
                  · go_wp2
                    go_ret
                    exact ⟨rfl, B15.out⟩
                · go_wp2
                  go_ret
                  exact ⟨rfl, B15.out⟩
          · go_wp2_with fail
            have B14 := B13
            refine (draw_PrimeFactors _ xs1 _ (HS1.out.keep B14.out) hl1).mono ?_
            rintro e w15 ⟨m, rfl, hb⟩
            have B15 := Lib.hid (Below.step B14.out B14.out.size hb)
            clear hb
            by_cases hm1 : 1 ≤ m
            · by_cases hm2 : m ≤ 1000000000
              · have mm0 : 0 ≤ pr * m := Int.mul_nonneg (by omega) (by omega)
                have mm1 : pr * m ≤ 1000000000 * 1000000000 := Int.mul_le_mul hn2 hm2 (by omega) (by omega)
                by_cases hm3 : pr * m ≤ 1000000000
                · have HGC := Lib.hid (show ∀ w' : World, Calls Try.prog 46 #[.int .i64 pr, .int .i64 m] w' fun e w'' => e = .returned (.int .i64 (Nat.gcd pr.toNat m.toNat : Int)) ∧ w'' = w' from fun w' => by
                    have := qGcd_any pr.toNat m.toNat w' (by omega) (by omega)
                    rwa [show ((pr.toNat : Nat) : Int) = pr by omega, show ((m.toNat : Nat) : Int) = m by omega] at this)
                  by_cases hg : Nat.gcd pr.toNat m.toNat = 1
                  · have hcop := cop_gcd (by omega) (by omega) hg
                    rw [hg] at HGC
                    have mm2 : 1 ≤ pr * m := by
                      have := Int.mul_le_mul hn1 hm1 (by omega) (by omega)
                      omega
                    have HI1 := Lib.hid (fun w' => impl_SumOfDivisors m w')
                    have HI2 := Lib.hid (fun w' => impl_SumOfDivisors (pr * m) w')
                    have HI3 := Lib.hid (fun w' => impl_CountDivisors m w')
                    have HI4 := Lib.hid (fun w' => impl_CountDivisors (pr * m) w')
                    rw [dvR_yes (show Dv m from ⟨hm1, hm2⟩)] at HI1 HI3
                    rw [dvR_yes (show Dv (pr * m) from ⟨mm2, hm3⟩), HMS.out m (by omega) hcop] at HI2
                    rw [dvR_yes (show Dv (pr * m) from ⟨mm2, hm3⟩), HMC.out m (by omega) hcop] at HI4
                    have hsb : 0 ≤ sgN m * (P + pr) ∧ sgN m * (P + pr) ≤ 1000000000000000000 := by
                      have hb := prop_bd (n := pr * m) (by omega) hm3
                      have e := HMS.out m (by omega) hcop
                      unfold sgN at e ⊢
                      rw [Int.mul_comm, ← e]
                      omega
                    have hcb : 0 ≤ ctN m * C ∧ ctN m * C ≤ 1000000000000000000 := by
                      have e := HMC.out m (by omega) hcop
                      have hb := ct_bd (n := pr * m) (by omega) hm3
                      rw [Int.mul_comm, ← e]
                      exact hb
                    have hse : (P + pr) * sgN m = sgN m * (P + pr) := Int.mul_comm _ _
                    have hce : C * ctN m = ctN m * C := Int.mul_comm _ _
                    rw [hse] at HI2
                    rw [hce] at HI4
                    obtain ⟨s0, s1⟩ := hsb
                    obtain ⟨t0, t1⟩ := hcb
                    obtain ⟨sm, hsm⟩ : ∃ sm, sm = sgN m := ⟨_, rfl⟩
                    obtain ⟨cm, hcm⟩ : ∃ cm, cm = ctN m := ⟨_, rfl⟩
                    rw [← hsm] at HI1 HI2 s0 s1
                    rw [← hcm] at HI3 HI4 t0 t1
                    clear hsm hcm hse hce hcop hg
                    go_wp2_with (go_at_call 46; refine (HGC.out _).mono ?_; rintro e w16 ⟨rfl, rfl⟩)
                    refine (HI1.out _).mono ?_
                    rintro e w17 ⟨rfl, hb⟩
                    have B17 := Lib.hid (Below.step B15.out B15.out.size hb)
                    clear hb
                    go_wp2_with fail
                    refine (HI2.out _).mono ?_
                    rintro e w18 ⟨rfl, hb⟩
                    have B18 := Lib.hid (Below.step B17.out B17.out.size hb)
                    clear hb
                    go_wp2_with fail
                    refine (HI3.out _).mono ?_
                    rintro e w19 ⟨rfl, hb⟩
                    have B19 := Lib.hid (Below.step B18.out B18.out.size hb)
                    clear hb
                    go_wp2_with fail
                    refine (HI4.out _).mono ?_
                    rintro e w20 ⟨rfl, hb⟩
                    have B20 := Lib.hid (Below.step B19.out B19.out.size hb)
                    clear hb
                    go_wp2
                    go_ret
                    exact ⟨by first | rfl | simp, B20.out⟩
                  · have hgn : ((Nat.gcd pr.toNat m.toNat : Int) == 1) = false := beq_no (by omega)
                    obtain ⟨gg, hgg⟩ : ∃ gg : Int, gg = (Nat.gcd pr.toNat m.toNat : Int) := ⟨_, rfl⟩
                    rw [← hgg] at HGC hgn
                    clear hgg hg
                    go_wp2_with (go_at_call 46; refine (HGC.out _).mono ?_; rintro e w16 ⟨rfl, rfl⟩)
                    go_ret
                    exact ⟨rfl, B15.out⟩
                · go_wp2
                  go_ret
                  exact ⟨rfl, B15.out⟩
              · go_wp2
                go_ret
                exact ⟨rfl, B15.out⟩
            · go_wp2
              go_ret
              exact ⟨rfl, B15.out⟩
    · rw [dvR_no hok] at HIS HSS HIC HSC HIP HSP HIK HSK
      rw [show OK_PrimeFactors n = false from decide_eq_false hok, show LF_PrimeFactors n = [] from if_neg hok] at HIF HSF
      clear hok
      go_wp2_with fail
      refine (HIS.out _).mono ?_
      rintro e w2 ⟨rfl, hb⟩
      have B2 := Lib.hid (Below.step B1.out B1.out.size hb)
      clear hb
      go_wp2_with fail
      refine (HSS.out _).mono ?_
      rintro e w3 ⟨rfl, hb⟩
      have B3 := Lib.hid (Below.step B2.out B2.out.size hb)
      clear hb
      go_wp2_with fail
      refine (HIC.out _).mono ?_
      rintro e w4 ⟨rfl, hb⟩
      have B4 := Lib.hid (Below.step B3.out B3.out.size hb)
      clear hb
      go_wp2_with fail
      refine (HSC.out _).mono ?_
      rintro e w5 ⟨rfl, hb⟩
      have B5 := Lib.hid (Below.step B4.out B4.out.size hb)
      clear hb
      go_wp2_with fail
      refine (HIP.out _).mono ?_
      rintro e w6 ⟨rfl, hb⟩
      have B6 := Lib.hid (Below.step B5.out B5.out.size hb)
      clear hb
      go_wp2_with fail
      refine (HSP.out _).mono ?_
      rintro e w7 ⟨rfl, hb⟩
      have B7 := Lib.hid (Below.step B6.out B6.out.size hb)
      clear hb
      go_wp2_with fail
      refine (HIK.out _).mono ?_
      rintro e w8 ⟨rfl, hb⟩
      have B8 := Lib.hid (Below.step B7.out B7.out.size hb)
      clear hb
      go_wp2_with fail
      refine (HSK.out _).mono ?_
      rintro e w9 ⟨rfl, hb⟩
      have B9 := Lib.hid (Below.step B8.out B8.out.size hb)
      clear hb
      go_wp2_with fail
      refine (HIF.out _).mono ?_
      rintro e w10 ⟨vf, rfl, hr, hb⟩
      have R10 := Lib.hid (hr.mono B9.out.size)
      have B10 := Lib.hid (Below.step B9.out B9.out.size hb)
      clear hr hb
      go_wp2_with fail
      refine (HSF.out _).mono ?_
      rintro e w11 ⟨vg, rfl, hr, hb⟩
      have R11 := Lib.hid (R10.out.keep hb)
      have Q11 := Lib.hid (hr.mono B10.out.size)
      have B11 := Lib.hid (Below.step B10.out B10.out.size hb)
      clear hr hb
      go_wp2_with fail
      refine (qSame_any _ _ [] _ R11.out.sl Q11.out.sl (by simp)).mono ?_
      rintro e w12 ⟨rfl, hb⟩
      have R12 := Lib.hid (R11.out.keep hb)
      have B12 := Lib.hid (Below.step B11.out B11.out.size hb)
      clear hb R10 R11 Q11 HIS HSS HIC HSC HIP HSP HIK HSK HIF HSF
      go_wp2_with fail
      refine (draw_PrimeFactors _ xs1 _ (HS1.out.keep B12.out) hl1).mono ?_
      rintro e w13 ⟨m, rfl, hb⟩
      have B13 := Lib.hid (Below.step B12.out B12.out.size hb)
      clear hb
      go_wp2
      go_ret
      exact ⟨rfl, B13.out⟩

end Go.Proofs.Ytlpmfapjgmhbhaa
