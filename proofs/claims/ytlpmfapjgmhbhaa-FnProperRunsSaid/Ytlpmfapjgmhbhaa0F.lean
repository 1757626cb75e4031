/-
  The law of proper runs, walked.
-/
import Derived.Test.Ytlpmfapjgmhbhaa8V
import Derived.Test.Ytlpmfapjgmhbhaa8K
import Derived.Test.Ytlpmfapjgmhbhaa0C
import Derived.Test.Ytlpmfapjgmhbhaa0D
import Derived.Test.Ytlpmfapjgmhbhaa0P
namespace Go.Proofs.Ytlpmfapjgmhbhaa
open Go.RowKit
set_option linter.unusedVariables false
set_option linter.unusedSimpArgs false
set_option maxRecDepth 100000

theorem RPtn_cases (m : Int) : RPtn m = none ∨ ∃ p, RPtn m = some p ∧ RPtn p = some m ∧ p ≠ m := by
  by_cases h : Dv m ∧ ptn m ≠ 0
  · obtain ⟨h1, h2, h3⟩ := ptn_back h.1 h.2
    refine .inr ⟨ptn m, if_pos h, ?_, h3⟩
    unfold RPtn
    rw [h2, if_pos ⟨h1, fun c => by have := h.1.1; omega⟩]
  · exact .inl (if_neg h)

/-- All that is told of one run, as the law asks it. -/
structure RunFacts (n m : Int) (l : List Int) (X E : Int) : Prop where
  l1 : 1 ≤ l.length
  lm : (l.length : Int) ≤ m
  l60 : l.length ≤ 60
  head : l.getD 0 0 = n
  dv : ∀ k, k < l.length → Dv (l.getD k 0)
  step : ∀ k, k + 1 < l.length → prop (l.getD k 0) = l.getD (k + 1) 0
  last : prop (l.getD (l.length - 1) 0) = X
  e0 : (E == 0) = (X == 0)
  e4 : (E == 4) = decide (1000000000 < X)
theorem run_facts {n m : Int} (hn : Dv n) (hm : Tm m) : RunFacts n m (runR n m.toNat).1 (runR n m.toNat).2 (endOf (runR n m.toNat)) := by
  have h1 : 1 ≤ m.toNat := by have := hm.1; omega
  obtain ⟨p1, p2, p3⟩ := runR_props hn h1
  have hh := runR_head hn h1
  have hc := runR_chain n m.toNat
  have hx := goR_nonneg m.toNat [] n (by have := hn.1; omega) (by have := hn.2; omega)
  change 0 ≤ (runR n m.toNat).2 ∧ _ at hx
  obtain ⟨R, hR⟩ : ∃ R, R = runR n m.toNat := ⟨_, rfl⟩
  rw [← hR] at p1 p2 p3 hh hc hx ⊢
  obtain ⟨l, X⟩ := R
  dsimp only at p1 p2 p3 hh hc hx ⊢
  have hm60 := hm.2
  refine ⟨p3, by omega, by omega, hh, fun k hk => p1 _ (by rw [getD_lt hk]; exact List.getElem_mem hk), hc.1, hc.2 p3, ?_, ?_⟩
  · have h := end_zero (l := l) (x := X)
    by_cases c : X = 0
    · rw [beq_yes c, beq_yes (h.2 c)]
    · rw [beq_no c, beq_no (fun q => c (h.1 q))]
  · have h := end_high (l := l) (x := X) hx.1
    by_cases c : 1000000000 < X
    · rw [decide_eq_true c, beq_yes (h.2 c)]
    · rw [decide_eq_false c, beq_no (fun q => c (h.1 q))]

/-- All that is told of a circle. -/
structure CircFacts (T : List Int) (E : Int) : Prop where
  t1 : 1 ≤ T.length
  t60 : T.length ≤ 60
  dv : ∀ j, j < T.length → Dv (T.getD j 0)
  step : ∀ j, j < T.length → prop (T.getD j 0) = T.getD ((j + 1) % T.length) 0
  least : ∀ j, j < T.length → ¬ T.getD j 0 < T.getD 0 0
  two : T.length = 2 → RPtn (T.getD 0 0) = some (T.getD 1 0)
  more : T.length ≠ 2 → RPtn (T.getD 0 0) = none
  e1 : (E == 1) = ((T.length : Int) == 1)
  e2 : (E == 2) = ((T.length : Int) == 2)
theorem miTo_least (xs : List Int) : ∀ k j, j < k → k ≤ xs.length → xs.getD (miTo xs k) 0 ≤ xs.getD j 0
  | 0, j, h, _ => by omega
  | k + 1, j, h, hl => by
    have ih := miTo_least xs k
    rw [miTo_succ]
    by_cases e : j = k
    · subst e; split <;> omega
    · have := ih j (by omega) (by omega)
      split <;> omega
theorem circ_facts {n m : Int} (hn : Dv n) (hm : Tm m) (h : crcOf (runR n m.toNat) ≠ []) : CircFacts (turn (crcOf (runR n m.toNat))) (endOf (runR n m.toNat)) ∧ 1 ≤ endOf (runR n m.toNat) ∧ endOf (runR n m.toNat) ≤ 3 := by
  have h1 : 1 ≤ m.toNat := by have := hm.1; omega
  have hcy := crc_cy hn h1 h
  have hlm := (runR_props hn h1).2.1
  have hm60 := hm.2
  obtain ⟨R, hR⟩ : ∃ R, R = runR n m.toNat := ⟨_, rfl⟩
  rw [← hR] at hcy h hlm ⊢
  obtain ⟨l, X⟩ := R
  obtain ⟨he1, he2⟩ := end_circle l X
  obtain ⟨e1, e2⟩ := he2 h
  obtain ⟨b1, b2⟩ := he1.1 h
  have hlen : (crcOf (l, X)).length ≤ 60 := by
    obtain ⟨k, hk⟩ := crcOf_drop (l, X)
    rw [hk, List.length_drop]
    dsimp only at hlm ⊢
    omega
  obtain ⟨C, hC⟩ : ∃ C, C = crcOf (l, X) := ⟨_, rfl⟩
  rw [← hC] at hcy h e1 e2 hlen ⊢
  have hL : 1 ≤ C.length := by
    cases C with
    | nil => exact absurd rfl h
    | cons a t => simp
  have hq := mi_lt (xs := C) (by omega)
  have hT := hcy.rot hq
  have hTl : (rot C (mi C)).length = C.length := rot_len (by omega)
  have hte : turn C = rot C (mi C) := rfl
  rw [hte]
  have hdv : ∀ j, j < (rot C (mi C)).length → Dv ((rot C (mi C)).getD j 0) := fun j hj => hT.2.1 _ (by rw [getD_lt hj]; exact List.getElem_mem hj)
  obtain ⟨pa, pb⟩ := hT.partner (by omega)
  refine ⟨⟨by omega, by omega, hdv, hT.1, fun j hj => ?_, fun h2 => ?_, fun h2 => ?_, ?_, ?_⟩, b1, b2⟩
  · rw [hTl] at hj
    rw [rot_get hq hj, rot_get hq (by omega), Nat.add_zero, Nat.mod_eq_of_lt hq]
    have := miTo_least C C.length ((mi C + j) % C.length) (Nat.mod_lt _ (by omega)) (Nat.le_refl _)
    unfold mi at this ⊢
    omega
  · obtain ⟨q1, q2⟩ := pa h2
    unfold RPtn
    rw [q1, if_pos ⟨hdv 0 (by omega), q2⟩]
  · unfold RPtn
    rw [if_neg (fun c => c.2 (pb h2))]
  · rw [hTl]
    by_cases c : endOf (l, X) = 1
    · rw [beq_yes c, beq_yes (by have := e1.1 c; omega)]
    · rw [beq_no c, beq_no (fun q => c (e1.2 (by omega)))]
  · rw [hTl]
    by_cases c : endOf (l, X) = 2
    · rw [beq_yes c, beq_yes (by have := e2.1 c; omega)]
    · rw [beq_no c, beq_no (fun q => c (e2.2 (by omega)))]
theorem no_circ {n m : Int} (h : crcOf (runR n m.toNat) = []) : endOf (runR n m.toNat) = 0 ∨ 3 < endOf (runR n m.toNat) := by
  obtain ⟨R, hR⟩ : ∃ R, R = runR n m.toNat := ⟨_, rfl⟩
  rw [← hR] at h ⊢
  obtain ⟨l, X⟩ := R
  by_cases hd : Dv X
  · by_cases hi : X ∈ l
    · have := (crc_len hd hi).2.1
      rw [h] at this
      simp at this
    · rw [endOf_more hd hi]; omega
  · by_cases hx : X = 0
    · subst hx; rw [endOf_zero]; omega
    · rw [endOf_high hd hx]; omega

set_option maxHeartbeats 4000000 in
theorem law_ProperRuns {W : World} (v0 : Value) (xs0 : List Int) (hs0 : Sb W v0 xs0) (v1 : Value) (xs1 : List Int) (hs1 : Sb W v1 xs1) :
    Calls Try.prog 3 #[v0, v1] W fun e w' => e = .returned (.bool true) ∧ Below W.heap.size W w' := by
  have HS0 := Lib.hid hs0
  have HS1 := Lib.hid hs1
  obtain ⟨a0, c0, rfl⟩ := hs0.len
  obtain ⟨a1, c1, rfl⟩ := hs1.len
  clear hs0 hs1
  by_cases hbig : 1048576 < xs0.length ∨ 1048576 < xs0.length + xs1.length
  · have HBG := Lib.hid (big_any a0 a1 xs0.length xs1.length c0 c1 W)
    rw [decide_eq_true hbig] at HBG
    obtain ⟨n0, hn0⟩ : ∃ n0, n0 = xs0.length := ⟨_, rfl⟩
    obtain ⟨n1, hn1⟩ : ∃ n1, n1 = xs1.length := ⟨_, rfl⟩
    rw [← hn0, ← hn1] at HBG ⊢
    clear hbig hn0 hn1 HS0 HS1
    go_enter Try.func3, Try.ntmps3
    go_wp2_with (go_at_call 6; refine HBG.out.mono ?_; rintro e w1 ⟨rfl, rfl⟩)
    go_ret
    exact ⟨rfl, Below.refl _ _⟩
  · have HBG := Lib.hid (big_any a0 a1 xs0.length xs1.length c0 c1 W)
    rw [decide_eq_false hbig] at HBG
    have hl0 : xs0.length ≤ 1048576 := by omega
    have hl1 : xs1.length ≤ 1048576 := by omega
    clear hbig
    go_enter Try.func3, Try.ntmps3
    go_wp2_with (go_at_call 6; refine HBG.out.mono ?_; rintro e w1 ⟨rfl, rfl⟩)
    refine (draw_EndOfRun _ xs0 _ HS0.out hl0).mono ?_
    rintro e w1 ⟨n, mo, rfl, hb⟩
    have B1 := Lib.hid hb
    clear hb HBG
    have HIE := Lib.hid (fun w' => impl_EndOfRun n mo w')
    have HSE := Lib.hid (fun w' => spec_EndOfRun n mo w')
    have HIR := Lib.hid (fun w' => impl_ProperRun n mo w')
    have HSR := Lib.hid (fun w' => spec_ProperRun n mo w')
    have HIC := Lib.hid (fun w' => impl_CircleOf n mo w')
    have HSC := Lib.hid (fun w' => spec_CircleOf n mo w')
    by_cases hok : Dv n ∧ Tm mo
    · obtain ⟨hn, hm⟩ := hok
      have RF := Lib.hid (run_facts hn hm)
      rw [show REnd n mo = some (endOf (runR n mo.toNat)) from if_pos ⟨hn, hm⟩] at HIE HSE
      rw [show OK_ProperRun n mo = true from okR_yes ⟨hn, hm⟩, show LF_ProperRun n mo = (runR n mo.toNat).1 from if_pos ⟨hn, hm⟩] at HIR HSR
      by_cases hcr : crcOf (runR n mo.toNat) = []
      · have HE := Lib.hid (no_circ hcr)
        rw [show OK_CircleOf n mo = false from decide_eq_false (fun q => q.2.2 hcr), show LF_CircleOf n mo = [] from if_neg (fun q => q.2.2 hcr)] at HIC HSC
        obtain ⟨E, hE⟩ : ∃ E, E = endOf (runR n mo.toNat) := ⟨_, rfl⟩
        obtain ⟨X, hX⟩ : ∃ X, X = (runR n mo.toNat).2 := ⟨_, rfl⟩
        obtain ⟨l, hl⟩ : ∃ l, l = (runR n mo.toNat).1 := ⟨_, rfl⟩
        rw [← hE] at HIE HSE RF HE
        rw [← hX] at RF
        rw [← hl] at RF HIR HSR
        clear hE hX hl hcr hn hm
        rcases HE.out with hE0 | hE3
        · subst hE0
          clear HE
          go_wp2_with fail
          refine (HIE.out _).mono ?_
          rintro e w2 ⟨rfl, hb⟩
          have B2 := Lib.hid (Below.step B1.out B1.out.size hb)
          clear hb
          go_wp2_with fail
          refine (HSE.out _).mono ?_
          rintro e w3 ⟨rfl, hb⟩
          have B3 := Lib.hid (Below.step B2.out B2.out.size hb)
          clear hb
          go_wp2_with fail
          refine (HIR.out _).mono ?_
          rintro e w4 ⟨vr, rfl, hr, hb⟩
          have R4 := Lib.hid (hr.mono B3.out.size)
          have B4 := Lib.hid (Below.step B3.out B3.out.size hb)
          clear hr hb
          go_wp2_with fail
          refine (HSR.out _).mono ?_
          rintro e w5 ⟨vr2, rfl, hr, hb⟩
          have R5 := Lib.hid (R4.out.keep hb)
          have Q5 := Lib.hid (hr.mono B4.out.size)
          have B5 := Lib.hid (Below.step B4.out B4.out.size hb)
          clear hr hb
          go_wp2_with fail
          refine (HIC.out _).mono ?_
          rintro e w6 ⟨vc, rfl, hr, hb⟩
          have R6 := Lib.hid (R5.out.keep hb)
          have Q6 := Lib.hid (Q5.out.keep hb)
          have C6 := Lib.hid (hr.mono B5.out.size)
          have B6 := Lib.hid (Below.step B5.out B5.out.size hb)
          clear hr hb
          go_wp2_with fail
          refine (HSC.out _).mono ?_
          rintro e w7 ⟨vc2, rfl, hr, hb⟩
          have R7 := Lib.hid (R6.out.keep hb)
          have Q7 := Lib.hid (Q6.out.keep hb)
          have C7 := Lib.hid (C6.out.keep hb)
          have D7 := Lib.hid (hr.mono B6.out.size)
          have B7 := Lib.hid (Below.step B6.out B6.out.size hb)
          clear hr hb
          go_wp2_with fail
          refine (qSame_any _ _ l _ R7.out.sl Q7.out.sl (by have := RF.out.l60; omega)).mono ?_
          rintro e w8 ⟨rfl, hb⟩
          have R8 := Lib.hid (R7.out.keep hb)
          have C8 := Lib.hid (C7.out.keep hb)
          have D8 := Lib.hid (D7.out.keep hb)
          have B8 := Lib.hid (Below.step B7.out B7.out.size hb)
          clear hb
          go_wp2_with fail
          refine (qSame_any _ _ [] _ C8.out.sl D8.out.sl (by simp)).mono ?_
          rintro e w9 ⟨rfl, hb⟩
          have R9 := Lib.hid (R8.out.keep hb)
          have C9 := Lib.hid (C8.out.keep hb)
          have B9 := Lib.hid (Below.step B8.out B8.out.size hb)
          clear hb

          have hL1 := RF.out.l1
          have hLm := RF.out.lm
          have hL60 := RF.out.l60
          obtain ⟨L, hL⟩ : ∃ L, L = l.length := ⟨_, rfl⟩
          obtain ⟨g, cap, hvr, _⟩ := rd_some R9.out hL1
          have R10 := Lib.hid (show Rd w9 W.heap.size (.slice (some ⟨g, 0, none⟩) L cap) l by rw [hL, ← hvr]; exact R9.out)
          subst hvr
          have HCL := Lib.hid (show ∀ (w' : World), Below w9.heap.size w9 w' → ∀ j, j < L → w'.cell? ⟨g, j, none⟩ = some (.int .i64 (l.getD j 0)) from fun w' hb j hj => by
            have := rd_get (R10.out.keep hb) j (by rw [← hL]; exact hj)
            rwa [Nat.zero_add] at this)
          have hc0 := HCL.out w9 (Below.refl _ _) 0 (by omega)
          rw [RF.out.head] at hc0
          rw [← hL] at hL1 hLm hL60 ⊢
          have HLL := Lib.hid hL
          clear hL
          go_wp2
          go_loopw [19] (fun i wr => ∃ k : Nat, 1 ≤ k ∧ k ≤ L ∧ i = .int .i64 (k : Int) ∧ Below w9.heap.size w9 wr) (fun i _ => L - (intOf i).toNat)
          case atStart => exact ⟨1, Nat.le_refl _, hL1, rfl, Below.refl _ _⟩
          case round =>
            obtain ⟨k, k1, kL, rfl, hb⟩ := hrel
            have HBk := Lib.hid hb
            clear hb
            by_cases hlt : k < L
            · have hca := HCL.out _ HBk.out (k - 1) (by omega)
              have hdv := RF.out.dv (k - 1) (by rw [← HLL.out]; omega)
              have hst := RF.out.step (k - 1) (by rw [← HLL.out]; omega)
              rw [show k - 1 + 1 = k by omega] at hst
              have HPS := Lib.hid (fun w' => impl_ProperSum (l.getD (k - 1) 0) w')
              rw [show dvR prop (l.getD (k - 1) 0) = some (prop (l.getD (k - 1) 0)) from dvR_yes hdv, hst] at HPS
              have HCK := Lib.hid (fun w' hb => HCL.out w' hb k hlt)
              obtain ⟨x, hx⟩ : ∃ x, x = l.getD (k - 1) 0 := ⟨_, rfl⟩
              obtain ⟨y, hy⟩ : ∃ y, y = l.getD k 0 := ⟨_, rfl⟩
              obtain ⟨j, hj⟩ : ∃ j, k = j + 1 := ⟨k - 1, by omega⟩
              rw [← hx] at hca HPS
              rw [← hy] at HPS HCK
              have ej : k - 1 = j := by omega
              have ej2 : (k : Int) - 1 = (j : Int) := by omega
              have hjL : j < L := by omega
              rw [ej] at hca
              clear hdv hst hx hy hj ej
              go_wp2_with (go_at_call 15; refine (HPS.out _).mono ?_; rintro e wk ⟨rfl, hb⟩; have HBk2 := Lib.hid (HBk.out.trans (hb.mono HBk.out.size)); have hck := HCK.out _ HBk2.out; clear hb)
              go_roundw
              case rel => exact ⟨k + 1, by omega, by omega, by go_num, HBk2.out⟩
              case measure => simp [intOf]; omega
            · obtain rfl : k = L := by omega
              have hca := HCL.out _ HBk.out (k - 1) (by omega)
              have hdv := RF.out.dv (k - 1) (by rw [← HLL.out]; omega)
              have hst := RF.out.last
              rw [← HLL.out] at hst
              have HPS := Lib.hid (fun w' => impl_ProperSum (l.getD (k - 1) 0) w')
              rw [show dvR prop (l.getD (k - 1) 0) = some (prop (l.getD (k - 1) 0)) from dvR_yes hdv, hst] at HPS
              obtain ⟨x, hx⟩ : ∃ x, x = l.getD (k - 1) 0 := ⟨_, rfl⟩
              obtain ⟨j, hj⟩ : ∃ j, k = j + 1 := ⟨k - 1, by omega⟩
              rw [← hx] at hca HPS
              have ej : k - 1 = j := by omega
              have ej2 : (k : Int) - 1 = (j : Int) := by omega
              have hjL : j < k := by omega
              rw [ej] at hca
              have he0 := RF.out.e0.symm
              have he4 := RF.out.e4.symm
              clear hdv hst hx hj ej
              go_wp2_with (go_at_call 15; refine (HPS.out _).mono ?_; rintro e w11 ⟨rfl, hb⟩; have B10 := Lib.hid (HBk.out.trans (hb.mono HBk.out.size)); have B11 := Lib.hid (Below.step B9.out B9.out.size B10.out); clear hb)
              go_wp2_with fail
              refine (draw_PartnerOf _ xs1 _ (HS1.out.keep B11.out) (by omega)).mono ?_
              rintro e wm1 ⟨m, rfl, hb⟩
              have BM1 := Lib.hid (Below.step B11.out B11.out.size hb)
              clear hb
              have HIM := Lib.hid (fun w' => impl_PartnerOf m w')
              have HSM := Lib.hid (fun w' => spec_PartnerOf m w')
              rcases RPtn_cases m with hm | ⟨p, hm, hp, hne⟩
              · rw [hm] at HIM HSM
                clear hm
                go_wp2_with (first | (go_at_call 16; refine (HIM.out _).mono ?_; rintro e wm2 ⟨rfl, hb⟩; have BM2 := Lib.hid (Below.step BM1.out BM1.out.size hb); clear hb) | (go_at_call 18; refine (HSM.out _).mono ?_; rintro e wm3 ⟨rfl, hb⟩; have BM3 := Lib.hid (Below.step BM2.out BM2.out.size hb); clear hb))
                go_ret
                exact ⟨rfl, BM3.out⟩
              · have HIP := Lib.hid (fun w' => impl_PartnerOf p w')
                rw [hm] at HIM HSM
                rw [hp] at HIP
                have hbn : (p != m) = true := bne_yes hne
                clear hm hp hne
                go_wp2_with (first | (go_at_call 16; (first | (with_reducible refine (HIM.out _).mono ?_; rintro e wm2 ⟨rfl, hb⟩; have BM2 := Lib.hid (Below.step BM1.out BM1.out.size hb); clear hb) | (with_reducible refine (HIP.out _).mono ?_; rintro e wm4 ⟨rfl, hb⟩; have BM4 := Lib.hid (Below.step BM3.out BM3.out.size hb); clear hb))) | (go_at_call 18; refine (HSM.out _).mono ?_; rintro e wm3 ⟨rfl, hb⟩; have BM3 := Lib.hid (Below.step BM2.out BM2.out.size hb); clear hb))
                go_ret
                exact ⟨by simp, BM4.out⟩
        · clear HE
          go_wp2_with fail
          refine (HIE.out _).mono ?_
          rintro e w2 ⟨rfl, hb⟩
          have B2 := Lib.hid (Below.step B1.out B1.out.size hb)
          clear hb
          go_wp2_with fail
          refine (HSE.out _).mono ?_
          rintro e w3 ⟨rfl, hb⟩
          have B3 := Lib.hid (Below.step B2.out B2.out.size hb)
          clear hb
          go_wp2_with fail
          refine (HIR.out _).mono ?_
          rintro e w4 ⟨vr, rfl, hr, hb⟩
          have R4 := Lib.hid (hr.mono B3.out.size)
          have B4 := Lib.hid (Below.step B3.out B3.out.size hb)
          clear hr hb
          go_wp2_with fail
          refine (HSR.out _).mono ?_
          rintro e w5 ⟨vr2, rfl, hr, hb⟩
          have R5 := Lib.hid (R4.out.keep hb)
          have Q5 := Lib.hid (hr.mono B4.out.size)
          have B5 := Lib.hid (Below.step B4.out B4.out.size hb)
          clear hr hb
          go_wp2_with fail
          refine (HIC.out _).mono ?_
          rintro e w6 ⟨vc, rfl, hr, hb⟩
          have R6 := Lib.hid (R5.out.keep hb)
          have Q6 := Lib.hid (Q5.out.keep hb)
          have C6 := Lib.hid (hr.mono B5.out.size)
          have B6 := Lib.hid (Below.step B5.out B5.out.size hb)
          clear hr hb
          go_wp2_with fail
          refine (HSC.out _).mono ?_
          rintro e w7 ⟨vc2, rfl, hr, hb⟩
          have R7 := Lib.hid (R6.out.keep hb)
          have Q7 := Lib.hid (Q6.out.keep hb)
          have C7 := Lib.hid (C6.out.keep hb)
          have D7 := Lib.hid (hr.mono B6.out.size)
          have B7 := Lib.hid (Below.step B6.out B6.out.size hb)
          clear hr hb
          go_wp2_with fail
          refine (qSame_any _ _ l _ R7.out.sl Q7.out.sl (by have := RF.out.l60; omega)).mono ?_
          rintro e w8 ⟨rfl, hb⟩
          have R8 := Lib.hid (R7.out.keep hb)
          have C8 := Lib.hid (C7.out.keep hb)
          have D8 := Lib.hid (D7.out.keep hb)
          have B8 := Lib.hid (Below.step B7.out B7.out.size hb)
          clear hb
          go_wp2_with fail
          refine (qSame_any _ _ [] _ C8.out.sl D8.out.sl (by simp)).mono ?_
          rintro e w9 ⟨rfl, hb⟩
          have R9 := Lib.hid (R8.out.keep hb)
          have C9 := Lib.hid (C8.out.keep hb)
          have B9 := Lib.hid (Below.step B8.out B8.out.size hb)
          clear hb

          have hL1 := RF.out.l1
          have hLm := RF.out.lm
          have hL60 := RF.out.l60
          obtain ⟨L, hL⟩ : ∃ L, L = l.length := ⟨_, rfl⟩
          obtain ⟨g, cap, hvr, _⟩ := rd_some R9.out hL1
          have R10 := Lib.hid (show Rd w9 W.heap.size (.slice (some ⟨g, 0, none⟩) L cap) l by rw [hL, ← hvr]; exact R9.out)
          subst hvr
          have HCL := Lib.hid (show ∀ (w' : World), Below w9.heap.size w9 w' → ∀ j, j < L → w'.cell? ⟨g, j, none⟩ = some (.int .i64 (l.getD j 0)) from fun w' hb j hj => by
            have := rd_get (R10.out.keep hb) j (by rw [← hL]; exact hj)
            rwa [Nat.zero_add] at this)
          have hc0 := HCL.out w9 (Below.refl _ _) 0 (by omega)
          rw [RF.out.head] at hc0
          rw [← hL] at hL1 hLm hL60 ⊢
          have HLL := Lib.hid hL
          clear hL
          go_wp2
          go_loopw [19] (fun i wr => ∃ k : Nat, 1 ≤ k ∧ k ≤ L ∧ i = .int .i64 (k : Int) ∧ Below w9.heap.size w9 wr) (fun i _ => L - (intOf i).toNat)
          case atStart => exact ⟨1, Nat.le_refl _, hL1, rfl, Below.refl _ _⟩
          case round =>
            obtain ⟨k, k1, kL, rfl, hb⟩ := hrel
            have HBk := Lib.hid hb
            clear hb
            by_cases hlt : k < L
            · have hca := HCL.out _ HBk.out (k - 1) (by omega)
              have hdv := RF.out.dv (k - 1) (by rw [← HLL.out]; omega)
              have hst := RF.out.step (k - 1) (by rw [← HLL.out]; omega)
              rw [show k - 1 + 1 = k by omega] at hst
              have HPS := Lib.hid (fun w' => impl_ProperSum (l.getD (k - 1) 0) w')
              rw [show dvR prop (l.getD (k - 1) 0) = some (prop (l.getD (k - 1) 0)) from dvR_yes hdv, hst] at HPS
              have HCK := Lib.hid (fun w' hb => HCL.out w' hb k hlt)
              obtain ⟨x, hx⟩ : ∃ x, x = l.getD (k - 1) 0 := ⟨_, rfl⟩
              obtain ⟨y, hy⟩ : ∃ y, y = l.getD k 0 := ⟨_, rfl⟩
              obtain ⟨j, hj⟩ : ∃ j, k = j + 1 := ⟨k - 1, by omega⟩
              rw [← hx] at hca HPS
              rw [← hy] at HPS HCK
              have ej : k - 1 = j := by omega
              have ej2 : (k : Int) - 1 = (j : Int) := by omega
              have hjL : j < L := by omega
              rw [ej] at hca
              clear hdv hst hx hy hj ej
              go_wp2_with (go_at_call 15; refine (HPS.out _).mono ?_; rintro e wk ⟨rfl, hb⟩; have HBk2 := Lib.hid (HBk.out.trans (hb.mono HBk.out.size)); have hck := HCK.out _ HBk2.out; clear hb)
              go_roundw
              case rel => exact ⟨k + 1, by omega, by omega, by go_num, HBk2.out⟩
              case measure => simp [intOf]; omega
            · obtain rfl : k = L := by omega
              have hca := HCL.out _ HBk.out (k - 1) (by omega)
              have hdv := RF.out.dv (k - 1) (by rw [← HLL.out]; omega)
              have hst := RF.out.last
              rw [← HLL.out] at hst
              have HPS := Lib.hid (fun w' => impl_ProperSum (l.getD (k - 1) 0) w')
              rw [show dvR prop (l.getD (k - 1) 0) = some (prop (l.getD (k - 1) 0)) from dvR_yes hdv, hst] at HPS
              obtain ⟨x, hx⟩ : ∃ x, x = l.getD (k - 1) 0 := ⟨_, rfl⟩
              obtain ⟨j, hj⟩ : ∃ j, k = j + 1 := ⟨k - 1, by omega⟩
              rw [← hx] at hca HPS
              have ej : k - 1 = j := by omega
              have ej2 : (k : Int) - 1 = (j : Int) := by omega
              have hjL : j < k := by omega
              rw [ej] at hca
              have he0 := RF.out.e0.symm
              have he4 := RF.out.e4.symm
              clear hdv hst hx hj ej
              go_wp2_with (go_at_call 15; refine (HPS.out _).mono ?_; rintro e w11 ⟨rfl, hb⟩; have B10 := Lib.hid (HBk.out.trans (hb.mono HBk.out.size)); have B11 := Lib.hid (Below.step B9.out B9.out.size B10.out); clear hb)
              go_wp2_with fail
              refine (draw_PartnerOf _ xs1 _ (HS1.out.keep B11.out) (by omega)).mono ?_
              rintro e wm1 ⟨m, rfl, hb⟩
              have BM1 := Lib.hid (Below.step B11.out B11.out.size hb)
              clear hb
              have HIM := Lib.hid (fun w' => impl_PartnerOf m w')
              have HSM := Lib.hid (fun w' => spec_PartnerOf m w')
              rcases RPtn_cases m with hm | ⟨p, hm, hp, hne⟩
              · rw [hm] at HIM HSM
                clear hm
                go_wp2_with (first | (go_at_call 16; refine (HIM.out _).mono ?_; rintro e wm2 ⟨rfl, hb⟩; have BM2 := Lib.hid (Below.step BM1.out BM1.out.size hb); clear hb) | (go_at_call 18; refine (HSM.out _).mono ?_; rintro e wm3 ⟨rfl, hb⟩; have BM3 := Lib.hid (Below.step BM2.out BM2.out.size hb); clear hb))
                go_ret
                exact ⟨rfl, BM3.out⟩
              · have HIP := Lib.hid (fun w' => impl_PartnerOf p w')
                rw [hm] at HIM HSM
                rw [hp] at HIP
                have hbn : (p != m) = true := bne_yes hne
                clear hm hp hne
                go_wp2_with (first | (go_at_call 16; (first | (with_reducible refine (HIM.out _).mono ?_; rintro e wm2 ⟨rfl, hb⟩; have BM2 := Lib.hid (Below.step BM1.out BM1.out.size hb); clear hb) | (with_reducible refine (HIP.out _).mono ?_; rintro e wm4 ⟨rfl, hb⟩; have BM4 := Lib.hid (Below.step BM3.out BM3.out.size hb); clear hb))) | (go_at_call 18; refine (HSM.out _).mono ?_; rintro e wm3 ⟨rfl, hb⟩; have BM3 := Lib.hid (Below.step BM2.out BM2.out.size hb); clear hb))
                go_ret
                exact ⟨by simp, BM4.out⟩
      · obtain ⟨cf, cE1, cE3⟩ := circ_facts hn hm hcr
        have CF := Lib.hid cf
        rw [show OK_CircleOf n mo = true from decide_eq_true ⟨hn, hm, hcr⟩, show LF_CircleOf n mo = turn (crcOf (runR n mo.toNat)) from if_pos ⟨hn, hm, hcr⟩] at HIC HSC
        obtain ⟨E, hE⟩ : ∃ E, E = endOf (runR n mo.toNat) := ⟨_, rfl⟩
        obtain ⟨X, hX⟩ : ∃ X, X = (runR n mo.toNat).2 := ⟨_, rfl⟩
        obtain ⟨l, hl⟩ : ∃ l, l = (runR n mo.toNat).1 := ⟨_, rfl⟩
        obtain ⟨T, hT⟩ : ∃ T, T = turn (crcOf (runR n mo.toNat)) := ⟨_, rfl⟩
        rw [← hE] at HIE HSE RF CF cE1 cE3
        rw [← hX] at RF
        rw [← hl] at RF HIR HSR
        rw [← hT] at CF HIC HSC
        clear hE hX hl hT hcr hn hm cf
        go_wp2_with fail
        refine (HIE.out _).mono ?_
        rintro e w2 ⟨rfl, hb⟩
        have B2 := Lib.hid (Below.step B1.out B1.out.size hb)
        clear hb
        go_wp2_with fail
        refine (HSE.out _).mono ?_
        rintro e w3 ⟨rfl, hb⟩
        have B3 := Lib.hid (Below.step B2.out B2.out.size hb)
        clear hb
        go_wp2_with fail
        refine (HIR.out _).mono ?_
        rintro e w4 ⟨vr, rfl, hr, hb⟩
        have R4 := Lib.hid (hr.mono B3.out.size)
        have B4 := Lib.hid (Below.step B3.out B3.out.size hb)
        clear hr hb
        go_wp2_with fail
        refine (HSR.out _).mono ?_
        rintro e w5 ⟨vr2, rfl, hr, hb⟩
        have R5 := Lib.hid (R4.out.keep hb)
        have Q5 := Lib.hid (hr.mono B4.out.size)
        have B5 := Lib.hid (Below.step B4.out B4.out.size hb)
        clear hr hb
        go_wp2_with fail
        refine (HIC.out _).mono ?_
        rintro e w6 ⟨vc, rfl, hr, hb⟩
        have R6 := Lib.hid (R5.out.keep hb)
        have Q6 := Lib.hid (Q5.out.keep hb)
        have C6 := Lib.hid (hr.mono B5.out.size)
        have B6 := Lib.hid (Below.step B5.out B5.out.size hb)
        clear hr hb
        go_wp2_with fail
        refine (HSC.out _).mono ?_
        rintro e w7 ⟨vc2, rfl, hr, hb⟩
        have R7 := Lib.hid (R6.out.keep hb)
        have Q7 := Lib.hid (Q6.out.keep hb)
        have C7 := Lib.hid (C6.out.keep hb)
        have D7 := Lib.hid (hr.mono B6.out.size)
        have B7 := Lib.hid (Below.step B6.out B6.out.size hb)
        clear hr hb
        go_wp2_with fail
        refine (qSame_any _ _ l _ R7.out.sl Q7.out.sl (by have := RF.out.l60; omega)).mono ?_
        rintro e w8 ⟨rfl, hb⟩
        have R8 := Lib.hid (R7.out.keep hb)
        have C8 := Lib.hid (C7.out.keep hb)
        have D8 := Lib.hid (D7.out.keep hb)
        have B8 := Lib.hid (Below.step B7.out B7.out.size hb)
        clear hb
        go_wp2_with fail
        refine (qSame_any _ _ T _ C8.out.sl D8.out.sl (by have := CF.out.t60; omega)).mono ?_
        rintro e w9 ⟨rfl, hb⟩
        have R9 := Lib.hid (R8.out.keep hb)
        have C9 := Lib.hid (C8.out.keep hb)
        have B9 := Lib.hid (Below.step B8.out B8.out.size hb)
        clear hb

        have t1 := CF.out.t1
        have t60 := CF.out.t60
        obtain ⟨LC, hLC⟩ : ∃ LC, LC = T.length := ⟨_, rfl⟩
        obtain ⟨gc, capc, hvc, _⟩ := rd_some C9.out t1
        have C12 := Lib.hid (show Rd w9 W.heap.size (.slice (some ⟨gc, 0, none⟩) LC capc) T by rw [hLC, ← hvc]; exact C9.out)
        subst hvc
        have HCT9 := Lib.hid (show ∀ (w' : World), Below w9.heap.size w9 w' → ∀ j, j < LC → w'.cell? ⟨gc, j, none⟩ = some (.int .i64 (T.getD j 0)) from fun w' hb j hj => by
          have := rd_get (C12.out.keep hb) j (by rw [← hLC]; exact hj)
          rwa [Nat.zero_add] at this)
        rw [← hLC] at t1 t60 ⊢
        have HLC := Lib.hid hLC
        clear hLC

        have hL1 := RF.out.l1
        have hLm := RF.out.lm
        have hL60 := RF.out.l60
        obtain ⟨L, hL⟩ : ∃ L, L = l.length := ⟨_, rfl⟩
        obtain ⟨g, cap, hvr, _⟩ := rd_some R9.out hL1
        have R10 := Lib.hid (show Rd w9 W.heap.size (.slice (some ⟨g, 0, none⟩) L cap) l by rw [hL, ← hvr]; exact R9.out)
        subst hvr
        have HCL := Lib.hid (show ∀ (w' : World), Below w9.heap.size w9 w' → ∀ j, j < L → w'.cell? ⟨g, j, none⟩ = some (.int .i64 (l.getD j 0)) from fun w' hb j hj => by
          have := rd_get (R10.out.keep hb) j (by rw [← hL]; exact hj)
          rwa [Nat.zero_add] at this)
        have hc0 := HCL.out w9 (Below.refl _ _) 0 (by omega)
        rw [RF.out.head] at hc0
        rw [← hL] at hL1 hLm hL60 ⊢
        have HLL := Lib.hid hL
        clear hL
        go_wp2
        go_loopw [19] (fun i wr => ∃ k : Nat, 1 ≤ k ∧ k ≤ L ∧ i = .int .i64 (k : Int) ∧ Below w9.heap.size w9 wr) (fun i _ => L - (intOf i).toNat)
        case atStart => exact ⟨1, Nat.le_refl _, hL1, rfl, Below.refl _ _⟩
        case round =>
          obtain ⟨k, k1, kL, rfl, hb⟩ := hrel
          have HBk := Lib.hid hb
          clear hb
          by_cases hlt : k < L
          · have hca := HCL.out _ HBk.out (k - 1) (by omega)
            have hdv := RF.out.dv (k - 1) (by rw [← HLL.out]; omega)
            have hst := RF.out.step (k - 1) (by rw [← HLL.out]; omega)
            rw [show k - 1 + 1 = k by omega] at hst
            have HPS := Lib.hid (fun w' => impl_ProperSum (l.getD (k - 1) 0) w')
            rw [show dvR prop (l.getD (k - 1) 0) = some (prop (l.getD (k - 1) 0)) from dvR_yes hdv, hst] at HPS
            have HCK := Lib.hid (fun w' hb => HCL.out w' hb k hlt)
            obtain ⟨x, hx⟩ : ∃ x, x = l.getD (k - 1) 0 := ⟨_, rfl⟩
            obtain ⟨y, hy⟩ : ∃ y, y = l.getD k 0 := ⟨_, rfl⟩
            obtain ⟨j, hj⟩ : ∃ j, k = j + 1 := ⟨k - 1, by omega⟩
            rw [← hx] at hca HPS
            rw [← hy] at HPS HCK
            have ej : k - 1 = j := by omega
            have ej2 : (k : Int) - 1 = (j : Int) := by omega
            have hjL : j < L := by omega
            rw [ej] at hca
            clear hdv hst hx hy hj ej
            go_wp2_with (go_at_call 15; refine (HPS.out _).mono ?_; rintro e wk ⟨rfl, hb⟩; have HBk2 := Lib.hid (HBk.out.trans (hb.mono HBk.out.size)); have hck := HCK.out _ HBk2.out; clear hb)
            go_roundw
            case rel => exact ⟨k + 1, by omega, by omega, by go_num, HBk2.out⟩
            case measure => simp [intOf]; omega
          · obtain rfl : k = L := by omega
            have hca := HCL.out _ HBk.out (k - 1) (by omega)
            have hdv := RF.out.dv (k - 1) (by rw [← HLL.out]; omega)
            have hst := RF.out.last
            rw [← HLL.out] at hst
            have HPS := Lib.hid (fun w' => impl_ProperSum (l.getD (k - 1) 0) w')
            rw [show dvR prop (l.getD (k - 1) 0) = some (prop (l.getD (k - 1) 0)) from dvR_yes hdv, hst] at HPS
            obtain ⟨x, hx⟩ : ∃ x, x = l.getD (k - 1) 0 := ⟨_, rfl⟩
            obtain ⟨j, hj⟩ : ∃ j, k = j + 1 := ⟨k - 1, by omega⟩
            rw [← hx] at hca HPS
            have ej : k - 1 = j := by omega
            have ej2 : (k : Int) - 1 = (j : Int) := by omega
            have hjL : j < k := by omega
            rw [ej] at hca
            have he0 := RF.out.e0.symm
            have he4 := RF.out.e4.symm
            clear hdv hst hx hj ej
            go_wp2_with (go_at_call 15; refine (HPS.out _).mono ?_; rintro e w11 ⟨rfl, hb⟩; have B10 := Lib.hid (HBk.out.trans (hb.mono HBk.out.size)); have B11 := Lib.hid (Below.step B9.out B9.out.size B10.out); clear hb)

            have HCT := Lib.hid (show ∀ (w' : World), Below w11.heap.size w11 w' → ∀ j, j < LC → w'.cell? ⟨gc, j, none⟩ = some (.int .i64 (T.getD j 0)) from fun w' hb j hj => HCT9.out w' (Below.step B10.out B10.out.size hb) j hj)
            go_loopw [195] (fun i wr => ∃ q : Nat, q ≤ LC ∧ i = .int .i64 (q : Int) ∧ Below w11.heap.size w11 wr) (fun i _ => LC - (intOf i).toNat)
            case atStart => exact ⟨0, Nat.zero_le _, rfl, Below.refl _ _⟩
            case round =>
              obtain ⟨q, qL, rfl, hb⟩ := hrel
              have HBq := Lib.hid hb
              clear hb
              by_cases hlt2 : q < LC
              · have hca := HCT.out _ HBq.out q hlt2
                have hdv := CF.out.dv q (by rw [← HLC.out]; exact hlt2)
                have hst := CF.out.step q (by rw [← HLC.out]; exact hlt2)
                have hle := CF.out.least q (by rw [← HLC.out]; exact hlt2)
                rw [← HLC.out] at hst
                have HPS2 := Lib.hid (fun w' => impl_ProperSum (T.getD q 0) w')
                rw [show dvR prop (T.getD q 0) = some (prop (T.getD q 0)) from dvR_yes hdv, hst] at HPS2
                obtain ⟨J, hJ⟩ : ∃ J, J = (q + 1) % LC := ⟨_, rfl⟩
                have hJL : J < LC := by rw [hJ]; exact Nat.mod_lt _ (by omega)
                have hJi : ((q : Int) + 1) % (LC : Int) = (J : Int) := by rw [hJ]; simp
                have HCJ := Lib.hid (fun w' hb => HCT.out w' hb J hJL)
                have HC0 := Lib.hid (fun w' hb => HCT.out w' hb 0 (by omega))
                rw [← hJ] at HPS2
                obtain ⟨x, hx⟩ : ∃ x, x = T.getD q 0 := ⟨_, rfl⟩
                obtain ⟨y, hy⟩ : ∃ y, y = T.getD J 0 := ⟨_, rfl⟩
                obtain ⟨z, hz⟩ : ∃ z, z = T.getD 0 0 := ⟨_, rfl⟩
                rw [← hx] at hca HPS2 hle
                rw [← hy] at HPS2 HCJ
                rw [← hz] at HC0 hle
                clear hdv hst hx hy hz hJ
                go_wp2_with (go_at_call 15; refine (HPS2.out _).mono ?_; rintro e wk ⟨rfl, hb⟩; have HBq2 := Lib.hid (HBq.out.trans (hb.mono HBq.out.size)); have hcj := HCJ.out _ HBq2.out; have hcz := HC0.out _ HBq2.out; clear hb)
                go_roundw
                case rel => exact ⟨q + 1, by omega, by go_num, HBq2.out⟩
                case measure => simp [intOf]; omega
              · obtain rfl : q = LC := by omega
                have B12 := Lib.hid (Below.step B11.out B11.out.size HBq.out)
                have hc0' := HCT.out _ HBq.out 0 (by omega)
                have he1 := CF.out.e1
                have he2 := CF.out.e2
                rw [← HLC.out] at he1 he2
                have HIP0 := Lib.hid (fun w' => impl_PartnerOf (T.getD 0 0) w')
                have HTW := Lib.hid CF.out.two
                have HMO := Lib.hid CF.out.more
                rw [← HLC.out] at HTW HMO
                have HC1 := Lib.hid (fun w' hb (h : 1 < q) => HCT.out w' hb 1 h)
                obtain ⟨z, hz⟩ : ∃ z, z = T.getD 0 0 := ⟨_, rfl⟩
                obtain ⟨y, hy⟩ : ∃ y, y = T.getD 1 0 := ⟨_, rfl⟩
                rw [← hz] at HIP0 hc0' HTW HMO
                rw [← hy] at HTW HC1
                clear hz hy
                by_cases h2 : q = 2
                · rw [HTW.out h2] at HIP0
                  subst h2
                  clear HTW HMO
                  go_wp2_with (go_at_call 16; refine (HIP0.out _).mono ?_; rintro e w13 ⟨rfl, hb⟩; have BQ := Lib.hid (HBq.out.trans (hb.mono HBq.out.size)); have hc1' := HC1.out _ BQ.out (by omega); have B13 := Lib.hid (Below.step B11.out B11.out.size BQ.out); clear hb)
                  go_wp2_with fail
                  refine (draw_PartnerOf _ xs1 _ (HS1.out.keep B13.out) (by omega)).mono ?_
                  rintro e wm1 ⟨m, rfl, hb⟩
                  have BM1 := Lib.hid (Below.step B13.out B13.out.size hb)
                  clear hb
                  have HIM := Lib.hid (fun w' => impl_PartnerOf m w')
                  have HSM := Lib.hid (fun w' => spec_PartnerOf m w')
                  rcases RPtn_cases m with hm | ⟨p, hm, hp, hne⟩
                  · rw [hm] at HIM HSM
                    clear hm
                    go_wp2_with (first | (go_at_call 16; refine (HIM.out _).mono ?_; rintro e wm2 ⟨rfl, hb⟩; have BM2 := Lib.hid (Below.step BM1.out BM1.out.size hb); clear hb) | (go_at_call 18; refine (HSM.out _).mono ?_; rintro e wm3 ⟨rfl, hb⟩; have BM3 := Lib.hid (Below.step BM2.out BM2.out.size hb); clear hb))
                    go_ret
                    exact ⟨rfl, BM3.out⟩
                  · have HIP := Lib.hid (fun w' => impl_PartnerOf p w')
                    rw [hm] at HIM HSM
                    rw [hp] at HIP
                    have hbn : (p != m) = true := bne_yes hne
                    clear hm hp hne
                    go_wp2_with (first | (go_at_call 16; (first | (with_reducible refine (HIM.out _).mono ?_; rintro e wm2 ⟨rfl, hb⟩; have BM2 := Lib.hid (Below.step BM1.out BM1.out.size hb); clear hb) | (with_reducible refine (HIP.out _).mono ?_; rintro e wm4 ⟨rfl, hb⟩; have BM4 := Lib.hid (Below.step BM3.out BM3.out.size hb); clear hb))) | (go_at_call 18; refine (HSM.out _).mono ?_; rintro e wm3 ⟨rfl, hb⟩; have BM3 := Lib.hid (Below.step BM2.out BM2.out.size hb); clear hb))
                    go_ret
                    exact ⟨by simp, BM4.out⟩
                · rw [HMO.out h2] at HIP0
                  have hq2 : ((q : Int) == 2) = false := beq_no (by omega)
                  clear HTW HMO h2
                  go_wp2_with (go_at_call 16; refine (HIP0.out _).mono ?_; rintro e w13 ⟨rfl, hb⟩; have B13 := Lib.hid (Below.step B12.out B12.out.size hb); clear hb)
                  go_wp2_with fail
                  refine (draw_PartnerOf _ xs1 _ (HS1.out.keep B13.out) (by omega)).mono ?_
                  rintro e wm1 ⟨m, rfl, hb⟩
                  have BM1 := Lib.hid (Below.step B13.out B13.out.size hb)
                  clear hb
                  have HIM := Lib.hid (fun w' => impl_PartnerOf m w')
                  have HSM := Lib.hid (fun w' => spec_PartnerOf m w')
                  rcases RPtn_cases m with hm | ⟨p, hm, hp, hne⟩
                  · rw [hm] at HIM HSM
                    clear hm
                    go_wp2_with (first | (go_at_call 16; refine (HIM.out _).mono ?_; rintro e wm2 ⟨rfl, hb⟩; have BM2 := Lib.hid (Below.step BM1.out BM1.out.size hb); clear hb) | (go_at_call 18; refine (HSM.out _).mono ?_; rintro e wm3 ⟨rfl, hb⟩; have BM3 := Lib.hid (Below.step BM2.out BM2.out.size hb); clear hb))
                    go_ret
                    exact ⟨rfl, BM3.out⟩
                  · have HIP := Lib.hid (fun w' => impl_PartnerOf p w')
                    rw [hm] at HIM HSM
                    rw [hp] at HIP
                    have hbn : (p != m) = true := bne_yes hne
                    clear hm hp hne
                    go_wp2_with (first | (go_at_call 16; (first | (with_reducible refine (HIM.out _).mono ?_; rintro e wm2 ⟨rfl, hb⟩; have BM2 := Lib.hid (Below.step BM1.out BM1.out.size hb); clear hb) | (with_reducible refine (HIP.out _).mono ?_; rintro e wm4 ⟨rfl, hb⟩; have BM4 := Lib.hid (Below.step BM3.out BM3.out.size hb); clear hb))) | (go_at_call 18; refine (HSM.out _).mono ?_; rintro e wm3 ⟨rfl, hb⟩; have BM3 := Lib.hid (Below.step BM2.out BM2.out.size hb); clear hb))
                    go_ret
                    exact ⟨by simp, BM4.out⟩
    · rw [show REnd n mo = none from if_neg hok] at HIE HSE
      rw [show OK_ProperRun n mo = false from okR_no hok, show LF_ProperRun n mo = [] from if_neg hok] at HIR HSR
      rw [show OK_CircleOf n mo = false from decide_eq_false (fun q => hok ⟨q.1, q.2.1⟩), show LF_CircleOf n mo = [] from if_neg (fun q => hok ⟨q.1, q.2.1⟩)] at HIC HSC
      clear hok
      go_wp2_with fail
      refine (HIE.out _).mono ?_
      rintro e w2 ⟨rfl, hb⟩
      have B2 := Lib.hid (Below.step B1.out B1.out.size hb)
      clear hb
      go_wp2_with fail
      refine (HSE.out _).mono ?_
      rintro e w3 ⟨rfl, hb⟩
      have B3 := Lib.hid (Below.step B2.out B2.out.size hb)
      clear hb
      go_wp2_with fail
      refine (HIR.out _).mono ?_
      rintro e w4 ⟨vr, rfl, hr, hb⟩
      have R4 := Lib.hid (hr.mono B3.out.size)
      have B4 := Lib.hid (Below.step B3.out B3.out.size hb)
      clear hr hb
      go_wp2_with fail
      refine (HSR.out _).mono ?_
      rintro e w5 ⟨vr2, rfl, hr, hb⟩
      have R5 := Lib.hid (R4.out.keep hb)
      have Q5 := Lib.hid (hr.mono B4.out.size)
      have B5 := Lib.hid (Below.step B4.out B4.out.size hb)
      clear hr hb
      go_wp2_with fail
      refine (HIC.out _).mono ?_
      rintro e w6 ⟨vc, rfl, hr, hb⟩
      have R6 := Lib.hid (R5.out.keep hb)
      have Q6 := Lib.hid (Q5.out.keep hb)
      have C6 := Lib.hid (hr.mono B5.out.size)
      have B6 := Lib.hid (Below.step B5.out B5.out.size hb)
      clear hr hb
      go_wp2_with fail
      refine (HSC.out _).mono ?_
      rintro e w7 ⟨vc2, rfl, hr, hb⟩
      have R7 := Lib.hid (R6.out.keep hb)
      have Q7 := Lib.hid (Q6.out.keep hb)
      have C7 := Lib.hid (C6.out.keep hb)
      have D7 := Lib.hid (hr.mono B6.out.size)
      have B7 := Lib.hid (Below.step B6.out B6.out.size hb)
      clear hr hb
      go_wp2_with fail
      refine (qSame_any _ _ [] _ R7.out.sl Q7.out.sl (by simp)).mono ?_
      rintro e w8 ⟨rfl, hb⟩
      have R8 := Lib.hid (R7.out.keep hb)
      have C8 := Lib.hid (C7.out.keep hb)
      have D8 := Lib.hid (D7.out.keep hb)
      have B8 := Lib.hid (Below.step B7.out B7.out.size hb)
      clear hb
      go_wp2_with fail
      refine (qSame_any _ _ [] _ C8.out.sl D8.out.sl (by simp)).mono ?_
      rintro e w9 ⟨rfl, hb⟩
      have R9 := Lib.hid (R8.out.keep hb)
      have C9 := Lib.hid (C8.out.keep hb)
      have B9 := Lib.hid (Below.step B8.out B8.out.size hb)
      clear hb
      go_wp2_with fail
      refine (draw_PartnerOf _ xs1 _ (HS1.out.keep B9.out) (by omega)).mono ?_
      rintro e wm1 ⟨m, rfl, hb⟩
      have BM1 := Lib.hid (Below.step B9.out B9.out.size hb)
      clear hb
      have HIM := Lib.hid (fun w' => impl_PartnerOf m w')
      have HSM := Lib.hid (fun w' => spec_PartnerOf m w')
      rcases RPtn_cases m with hm | ⟨p, hm, hp, hne⟩
      · rw [hm] at HIM HSM
        clear hm
        go_wp2_with (first | (go_at_call 16; refine (HIM.out _).mono ?_; rintro e wm2 ⟨rfl, hb⟩; have BM2 := Lib.hid (Below.step BM1.out BM1.out.size hb); clear hb) | (go_at_call 18; refine (HSM.out _).mono ?_; rintro e wm3 ⟨rfl, hb⟩; have BM3 := Lib.hid (Below.step BM2.out BM2.out.size hb); clear hb))
        go_ret
        exact ⟨rfl, BM3.out⟩
      · have HIP := Lib.hid (fun w' => impl_PartnerOf p w')
        rw [hm] at HIM HSM
        rw [hp] at HIP
        have hbn : (p != m) = true := bne_yes hne
        clear hm hp hne
        go_wp2_with (first | (go_at_call 16; (first | (with_reducible refine (HIM.out _).mono ?_; rintro e wm2 ⟨rfl, hb⟩; have BM2 := Lib.hid (Below.step BM1.out BM1.out.size hb); clear hb) | (with_reducible refine (HIP.out _).mono ?_; rintro e wm4 ⟨rfl, hb⟩; have BM4 := Lib.hid (Below.step BM3.out BM3.out.size hb); clear hb))) | (go_at_call 18; refine (HSM.out _).mono ?_; rintro e wm3 ⟨rfl, hb⟩; have BM3 := Lib.hid (Below.step BM2.out BM2.out.size hb); clear hb))
        go_ret
        exact ⟨by simp, BM4.out⟩

end Go.Proofs.Ytlpmfapjgmhbhaa
