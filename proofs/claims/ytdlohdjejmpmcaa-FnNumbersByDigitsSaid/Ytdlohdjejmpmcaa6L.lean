/-
  The law of numbers told by their digits (written by wip/tools/gen_6l.py).
-/
import Derived.Test.Ytdlohdjejmpmcaa6D
import Derived.Test.YtdlohdjejmpmcaaG
namespace Go.Proofs.Ytdlohdjejmpmcaa
open Go.RowKit
set_option linter.unusedVariables false
set_option linter.unusedSimpArgs false
set_option maxRecDepth 100000

theorem rd_lies6 {w : World} {B : Nat} {v : Value} {xs : List Int} (hr : Rd w B v xs) : ∃ a cap, v = .slice a xs.length cap ∧ xs.length ≤ cap ∧ (xs.length = 0 ∨ ∃ g, a = some ⟨g, 0, none⟩ ∧ g < w.heap.size ∧ ∀ (j : Nat) x, xs[j]? = some x → w.cell? ⟨g, j, none⟩ = some (.int .i64 x)) := by
  rcases hr.cases with ⟨rfl, rfl⟩ | ⟨g, cap, rfl, _⟩
  · exact ⟨none, 0, rfl, Nat.le_refl _, .inl rfl⟩
  · refine ⟨_, _, rfl, hr.at.2.2.2.1, .inr ⟨g, rfl, hr.at.2.2.1, fun j x hx => ?_⟩⟩
    obtain ⟨h1, h2⟩ := List.getElem?_eq_some_iff.1 hx
    rw [hr.at.2.2.2.2.1 j h1, h2]

/-- What the law asks of the numbers on the list. -/
theorem lsp_facts {c m x : Int} {k : Nat} (hk : (LSP c m)[k]? = some x) : Num x ∧ Bas c ∧ 1 ≤ x ∧ x ≤ 20000 ∧ sd c x * pd c x = x ∧ hsh c x = true ∧ ∀ y, k ≠ 0 → (LSP c m)[k - 1]? = some y → y < x := by
  have hmem := List.mem_of_getElem? hk
  unfold LSP at hk hmem ⊢
  by_cases hs : SPok c m
  · rw [if_pos hs] at hk hmem ⊢
    obtain ⟨hB, m0, m1⟩ := hs
    obtain ⟨x1, x2, x3⟩ := spn_mem c _ x hmem
    have hx20 : x ≤ 20000 := by omega
    have hh := spt_hsh hB.1 hB.2 x1 hx20 x3
    obtain ⟨p0, p1, _⟩ := pd_lt c x hB.1 hB.2 (by omega) (by omega)
    obtain ⟨s0, _, s1, _⟩ := sd_bd c x hB.1 hB.2 (by omega) (by omega)
    have q0 : 0 ≤ pd c x * sd c x := Int.mul_nonneg p0 s0
    have q1 : pd c x * sd c x ≤ 20000 * 600 := Int.mul_le_mul (by omega) s1 s0 (by omega)
    have hx : x = pd c x * sd c x := by
      have := of_decide_eq_true x3
      rwa [wrap_id (by omega) (by omega)] at this
    refine ⟨⟨by omega, by omega⟩, hB, x1, hx20, by rw [Int.mul_comm]; exact hx.symm, hh, fun y hk0 hy => ?_⟩
    obtain ⟨k1, e1⟩ := List.getElem?_eq_some_iff.1 hk
    obtain ⟨k2, e2⟩ := List.getElem?_eq_some_iff.1 hy
    have := List.pairwise_iff_getElem.1 (spn_rise c m.toNat) (k - 1) k k2 k1 (by omega)
    rw [e1, e2] at this
    exact this
  · rw [if_neg hs] at hmem
    simp at hmem

set_option maxHeartbeats 20000000 in
theorem law_NumbersByDigits {W : World} (v0 : Value) (xs0 : List Int) (hs0 : Sb W v0 xs0) (v1 : Value) (xs1 : List Int) (hs1 : Sb W v1 xs1) :
    Calls Try.prog 5 #[v0, v1] W fun e w' => e = .returned (.bool true) ∧ Below W.heap.size W w' := by
  obtain ⟨a0, k0, rfl⟩ := hs0.len
  obtain ⟨a1, k1, rfl⟩ := hs1.len
  have HS0 := Lib.hid hs0
  have HS1 := Lib.hid hs1
  have HB := Lib.hid (big_any a0 a1 xs0.length xs1.length k0 k1 W)
  clear hs0 hs1
  by_cases hbig : 1048576 < xs0.length ∨ 1048576 < xs0.length + xs1.length
  · rw [decide_eq_true hbig] at HB
    go_enter Try.func5, Try.ntmps5
    go_wp2_with (go_at_call 6; refine HB.out.mono ?_; rintro e w ⟨rfl, rfl⟩)
    go_ret
    exact ⟨rfl, Below.refl _ _⟩
  rw [decide_eq_false hbig] at HB
  have hl0 : xs0.length ≤ 1048576 := by omega
  have hl1 : xs1.length ≤ 1048576 := by omega
  have HL1 := Lib.hid hl1
  clear hbig
  go_enter Try.func5, Try.ntmps5
  go_wp2_with fail
  refine HB.out.mono ?_
  rintro e w ⟨rfl, rfl⟩
  go_wp2_with fail
  refine (draw_NextHarshad _ xs0 _ HS0.out hl0).mono ?_
  rintro e w1 ⟨n, b, rfl, hb⟩
  have BE1 := Lib.hid hb
  clear hb hl0 hl1
  have HI1 := Lib.hid (fun w => impl_NextHarshad n b w)
  have HT1 := Lib.hid (fun w => spec_NextHarshad n b w)
  have HI2 := Lib.hid (fun w => impl_IsHarshad n b w)
  have HT2 := Lib.hid (fun w => spec_IsHarshad n b w)
  have HI3 := Lib.hid (fun w => impl_IsZuckerman n b w)
  have HT3 := Lib.hid (fun w => spec_IsZuckerman n b w)
  by_cases hq : Num n ∧ Bas b
  · have e1 : askF RNextHarshad n b = nexH b (n + 1) := if_pos hq
    rw [e1] at HI1 HT1
    rw [(RIsHarshad_yes hq).1, (RIsHarshad_yes hq).2] at HI2 HT2
    rw [(RIsZuckerman_yes hq).1, (RIsZuckerman_yes hq).2] at HI3 HT3
    have HLE := Lib.hid (fun m (h : nexH b (n + 1) = some m) => nexH_least h)
    have HQ := Lib.hid hq
    obtain ⟨r, hr⟩ : ∃ r, r = nexH b (n + 1) := ⟨_, rfl⟩
    rw [← hr] at HI1 HT1 HLE
    have HDS := Lib.hid (fun w => impl_DigitSum n b w)
    have HDP := Lib.hid (fun w => impl_DigitProduct n b w)
    have d1 : askI RDigitSum n b = some (sd b n) := if_pos hq
    have d2 : askI RDigitProduct n b = some (pd b n) := if_pos hq
    rw [d1] at HDS
    rw [d2] at HDP
    simp only [optRes] at HDS HDP
    have HSP := Lib.hid (sd_pos b n hq.2.1)
    have HHS := Lib.hid (show hsh b n = (decide (0 < n) && decide (n % sd b n = 0)) from rfl)
    have HZK := Lib.hid (show zuk b n = (decide (0 < pd b n) && decide (n % pd b n = 0)) from rfl)
    obtain ⟨s, hs⟩ : ∃ s, s = sd b n := ⟨_, rfl⟩
    obtain ⟨p, hp⟩ : ∃ p, p = pd b n := ⟨_, rfl⟩
    obtain ⟨hh, hhh⟩ : ∃ hh, hh = hsh b n := ⟨_, rfl⟩
    obtain ⟨zz, hzz⟩ : ∃ zz, zz = zuk b n := ⟨_, rfl⟩
    rw [← hs] at HDS HSP HHS
    rw [← hp] at HDP HZK
    rw [← hhh] at HI2 HT2 HHS
    rw [← hzz] at HI3 HT3 HZK
    obtain ⟨⟨n0, n1⟩, hb0, hb1⟩ := hq
    clear e1 d1 d2 hr hs hp hhh hzz
    cases r with
    | none =>
      simp only [optRes] at HI1 HT1
      go_wp2_with fail
      refine (HI1.out _).mono ?_
      rintro e w2 ⟨rfl, hb⟩
      have BE2 := Lib.hid (BE1.out.trans (hb.mono BE1.out.size))
      clear hb
      go_wp2_with fail
      refine (HT1.out _).mono ?_
      rintro e w3 ⟨rfl, hb⟩
      have BE3 := Lib.hid (BE2.out.trans (hb.mono BE2.out.size))
      clear hb
      go_wp2_with fail
      refine (HI2.out _).mono ?_
      rintro e w4 ⟨rfl, hb⟩
      have BE4 := Lib.hid (BE3.out.trans (hb.mono BE3.out.size))
      clear hb
      go_wp2_with fail
      refine (HT2.out _).mono ?_
      rintro e w5 ⟨rfl, hb⟩
      have BE5 := Lib.hid (BE4.out.trans (hb.mono BE4.out.size))
      clear hb
      go_wp2_with fail
      refine (HI3.out _).mono ?_
      rintro e w6 ⟨rfl, hb⟩
      have BE6 := Lib.hid (BE5.out.trans (hb.mono BE5.out.size))
      clear hb
      go_wp2_with fail
      refine (HT3.out _).mono ?_
      rintro e w7 ⟨rfl, hb⟩
      have BE7 := Lib.hid (BE6.out.trans (hb.mono BE6.out.size))
      clear hb
      by_cases hpos : 0 < n
      · have hs0 : 0 < s := HSP.out hpos
        have hs1 : ¬ s = 0 := by omega
        have t1 : n.tmod s = n % s := Int.tmod_eq_emod_of_nonneg n0
        have t2 : (n % s == 0) = hh := by rw [HHS.out, decide_eq_true hpos]; rfl
        have hp0 : 0 ≤ p ∨ p < 0 := by omega
        go_wp2_with fail
        refine (HDS.out _).mono ?_
        rintro e w8 ⟨rfl, hb⟩
        have BE8 := Lib.hid (BE7.out.trans (hb.mono BE7.out.size))
        clear hb
        go_wp2_with fail
        refine (HDP.out _).mono ?_
        rintro e w9 ⟨rfl, hb⟩
        have BE9 := Lib.hid (BE8.out.trans (hb.mono BE8.out.size))
        clear hb
        by_cases hpp : 0 < p
        · have hp1 : ¬ p = 0 := by omega
          have t3 : n.tmod p = n % p := Int.tmod_eq_emod_of_nonneg n0
          have t4 : (n % p == 0) = zz := by rw [HZK.out, decide_eq_true hpp]; rfl
          as_aux_lemma =>
            go_wp2_with fail
            refine (draw_SumProductNumbers _ xs1 _ (HS1.out.keep BE9.out) HL1.out).mono ?_
            rintro e y1 ⟨c, mo, rfl, hb⟩
            have YE1 := Lib.hid (BE9.out.trans (hb.mono BE9.out.size))
            clear hb
            go_wp2_with fail
            refine (impl_SumProductNumbers c mo _).mono ?_
            rintro e y2 ⟨u1, rfl, hr, hb⟩
            have R2 := Lib.hid hr
            have YE2 := Lib.hid (YE1.out.trans (hb.mono YE1.out.size))
            clear hr hb
            go_wp2_with fail
            refine (spec_SumProductNumbers c mo _).mono ?_
            rintro e y3 ⟨u2, rfl, hr, hb⟩
            have R3 := Lib.hid (R2.out.keep hb)
            have Q3 := Lib.hid hr
            have YE3 := Lib.hid (YE2.out.trans (hb.mono YE2.out.size))
            clear hr hb
            have HF := Lib.hid (fun (k : Nat) (x : Int) (hk : (LSP c mo)[k]? = some x) => lsp_facts hk)
            have HLL := Lib.hid (LSP_len c mo)
            obtain ⟨L, hL⟩ : ∃ L, L = LSP c mo := ⟨_, rfl⟩
            rw [← hL] at R3 Q3 HF HLL
            clear hL R2
            go_wp2_with fail
            refine (qSame_any _ _ L _ R3.out.sl Q3.out.sl HLL.out).mono ?_
            rintro e y4 ⟨rfl, hb⟩
            have R4 := Lib.hid (R3.out.keep hb)
            have YE4 := Lib.hid (YE3.out.trans (hb.mono YE3.out.size))
            clear hb
            obtain ⟨ga, gc, rfl, hgc, hlies⟩ := rd_lies6 R4.out
            have HLIES := Lib.hid hlies
            obtain ⟨N, hN⟩ : ∃ N, N = L.length := ⟨_, rfl⟩
            have HN := Lib.hid hN
            rw [← hN] at hgc ⊢
            have hN2 : N ≤ 2000000 := by rw [hN]; exact HLL.out
            clear hlies hN
            go_wp2
            go_loopw [233] (fun i wr => ∃ k : Nat, k ≤ N ∧ i = .int .i64 (k : Int) ∧ Below y4.heap.size y4 wr) (fun i _ => N - (intOf i).toNat)
            case atStart => exact ⟨0, Nat.zero_le _, rfl, Below.refl _ _⟩
            case round =>
              obtain ⟨k, hk, rfl, hb⟩ := hrel
              have KB := Lib.hid hb
              clear hb
              by_cases hlt : k < N
              · obtain ⟨x, hx⟩ : ∃ x, L[k]? = some x := ⟨L[k]'(by rw [← HN.out]; exact hlt), List.getElem?_eq_getElem _⟩
                rcases HLIES.out with h0 | ⟨g, rfl, hg, hcell⟩
                · exfalso; have := HN.out; omega
                have z0 := (KB.out.cell (p := ⟨g, k, none⟩) hg).trans (hcell k x hx)
                obtain ⟨hNx, hBc, x1, x2, hmul, hh, hrise⟩ := HF.out k x hx
                have HD1 := Lib.hid (fun w => impl_DigitSum x c w)
                have HD2 := Lib.hid (fun w => impl_DigitProduct x c w)
                have HD3 := Lib.hid (fun w => impl_IsHarshad x c w)
                have e1 : askI RDigitSum x c = some (sd c x) := if_pos ⟨hNx, hBc⟩
                have e2 : askI RDigitProduct x c = some (pd c x) := if_pos ⟨hNx, hBc⟩
                rw [e1] at HD1
                rw [e2] at HD2
                rw [(RIsHarshad_yes ⟨hNx, hBc⟩).1, (RIsHarshad_yes ⟨hNx, hBc⟩).2, hh] at HD3
                simp only [optRes] at HD1 HD2
                obtain ⟨s, hs⟩ : ∃ s, s = sd c x := ⟨_, rfl⟩
                obtain ⟨p, hp⟩ : ∃ p, p = pd c x := ⟨_, rfl⟩
                rw [← hs] at HD1 hmul
                rw [← hp] at HD2 hmul
                have HX := Lib.hid hx
                have HLT := Lib.hid hlt
                clear e1 e2 hh hs hp hx
                go_wp2_with fail
                refine (HD1.out _).mono ?_
                rintro e u3 ⟨rfl, hb⟩
                have KB1 := Lib.hid (KB.out.trans (hb.mono KB.out.size))
                clear hb z0
                go_wp2_with fail
                refine (HD2.out _).mono ?_
                rintro e u4 ⟨rfl, hb⟩
                have KB2 := Lib.hid (KB1.out.trans (hb.mono KB1.out.size))
                clear hb
                go_wp2_with fail
                refine (HD3.out _).mono ?_
                rintro e u5 ⟨rfl, hb⟩
                have KB3 := Lib.hid (KB2.out.trans (hb.mono KB2.out.size))
                clear hb
                cases k with
                | zero =>
                  clear hrise
                  go_wp2
                  go_roundw
                  case rel => exact ⟨1, by have := HLT.out; omega, by go_num, KB3.out⟩
                  case measure => simp [intOf]; omega
                | succ j =>
                  obtain ⟨y, hy⟩ : ∃ y, L[j]? = some y := ⟨L[j]'(by rw [← HN.out]; omega), List.getElem?_eq_getElem _⟩
                  have hyx : y < x := hrise y (by omega) hy
                  have z1 := (KB3.out.cell (p := ⟨g, j, none⟩) hg).trans (hcell j y hy)
                  have hnl : ¬ x ≤ y := by omega
                  clear hrise hy
                  go_wp2
                  go_roundw
                  case rel => exact ⟨j + 2, by have := HLT.out; omega, by go_num, KB3.out⟩
                  case measure => simp [intOf]; omega
              · obtain rfl : k = N := by omega
                go_wp2
                go_ret
                exact ⟨rfl, YE4.out.trans (KB.out.mono YE4.out.size)⟩
        · have t4 : zz = false := by rw [HZK.out, decide_eq_false hpp]; rfl
          subst t4
          as_aux_lemma =>
            go_wp2_with fail
            refine (draw_SumProductNumbers _ xs1 _ (HS1.out.keep BE9.out) HL1.out).mono ?_
            rintro e y1 ⟨c, mo, rfl, hb⟩
            have YE1 := Lib.hid (BE9.out.trans (hb.mono BE9.out.size))
            clear hb
            go_wp2_with fail
            refine (impl_SumProductNumbers c mo _).mono ?_
            rintro e y2 ⟨u1, rfl, hr, hb⟩
            have R2 := Lib.hid hr
            have YE2 := Lib.hid (YE1.out.trans (hb.mono YE1.out.size))
            clear hr hb
            go_wp2_with fail
            refine (spec_SumProductNumbers c mo _).mono ?_
            rintro e y3 ⟨u2, rfl, hr, hb⟩
            have R3 := Lib.hid (R2.out.keep hb)
            have Q3 := Lib.hid hr
            have YE3 := Lib.hid (YE2.out.trans (hb.mono YE2.out.size))
            clear hr hb
            have HF := Lib.hid (fun (k : Nat) (x : Int) (hk : (LSP c mo)[k]? = some x) => lsp_facts hk)
            have HLL := Lib.hid (LSP_len c mo)
            obtain ⟨L, hL⟩ : ∃ L, L = LSP c mo := ⟨_, rfl⟩
            rw [← hL] at R3 Q3 HF HLL
            clear hL R2
            go_wp2_with fail
            refine (qSame_any _ _ L _ R3.out.sl Q3.out.sl HLL.out).mono ?_
            rintro e y4 ⟨rfl, hb⟩
            have R4 := Lib.hid (R3.out.keep hb)
            have YE4 := Lib.hid (YE3.out.trans (hb.mono YE3.out.size))
            clear hb
            obtain ⟨ga, gc, rfl, hgc, hlies⟩ := rd_lies6 R4.out
            have HLIES := Lib.hid hlies
            obtain ⟨N, hN⟩ : ∃ N, N = L.length := ⟨_, rfl⟩
            have HN := Lib.hid hN
            rw [← hN] at hgc ⊢
            have hN2 : N ≤ 2000000 := by rw [hN]; exact HLL.out
            clear hlies hN
            go_wp2
            go_loopw [233] (fun i wr => ∃ k : Nat, k ≤ N ∧ i = .int .i64 (k : Int) ∧ Below y4.heap.size y4 wr) (fun i _ => N - (intOf i).toNat)
            case atStart => exact ⟨0, Nat.zero_le _, rfl, Below.refl _ _⟩
            case round =>
              obtain ⟨k, hk, rfl, hb⟩ := hrel
              have KB := Lib.hid hb
              clear hb
              by_cases hlt : k < N
              · obtain ⟨x, hx⟩ : ∃ x, L[k]? = some x := ⟨L[k]'(by rw [← HN.out]; exact hlt), List.getElem?_eq_getElem _⟩
                rcases HLIES.out with h0 | ⟨g, rfl, hg, hcell⟩
                · exfalso; have := HN.out; omega
                have z0 := (KB.out.cell (p := ⟨g, k, none⟩) hg).trans (hcell k x hx)
                obtain ⟨hNx, hBc, x1, x2, hmul, hh, hrise⟩ := HF.out k x hx
                have HD1 := Lib.hid (fun w => impl_DigitSum x c w)
                have HD2 := Lib.hid (fun w => impl_DigitProduct x c w)
                have HD3 := Lib.hid (fun w => impl_IsHarshad x c w)
                have e1 : askI RDigitSum x c = some (sd c x) := if_pos ⟨hNx, hBc⟩
                have e2 : askI RDigitProduct x c = some (pd c x) := if_pos ⟨hNx, hBc⟩
                rw [e1] at HD1
                rw [e2] at HD2
                rw [(RIsHarshad_yes ⟨hNx, hBc⟩).1, (RIsHarshad_yes ⟨hNx, hBc⟩).2, hh] at HD3
                simp only [optRes] at HD1 HD2
                obtain ⟨s, hs⟩ : ∃ s, s = sd c x := ⟨_, rfl⟩
                obtain ⟨p, hp⟩ : ∃ p, p = pd c x := ⟨_, rfl⟩
                rw [← hs] at HD1 hmul
                rw [← hp] at HD2 hmul
                have HX := Lib.hid hx
                have HLT := Lib.hid hlt
                clear e1 e2 hh hs hp hx
                go_wp2_with fail
                refine (HD1.out _).mono ?_
                rintro e u3 ⟨rfl, hb⟩
                have KB1 := Lib.hid (KB.out.trans (hb.mono KB.out.size))
                clear hb z0
                go_wp2_with fail
                refine (HD2.out _).mono ?_
                rintro e u4 ⟨rfl, hb⟩
                have KB2 := Lib.hid (KB1.out.trans (hb.mono KB1.out.size))
                clear hb
                go_wp2_with fail
                refine (HD3.out _).mono ?_
                rintro e u5 ⟨rfl, hb⟩
                have KB3 := Lib.hid (KB2.out.trans (hb.mono KB2.out.size))
                clear hb
                cases k with
                | zero =>
                  clear hrise
                  go_wp2
                  go_roundw
                  case rel => exact ⟨1, by have := HLT.out; omega, by go_num, KB3.out⟩
                  case measure => simp [intOf]; omega
                | succ j =>
                  obtain ⟨y, hy⟩ : ∃ y, L[j]? = some y := ⟨L[j]'(by rw [← HN.out]; omega), List.getElem?_eq_getElem _⟩
                  have hyx : y < x := hrise y (by omega) hy
                  have z1 := (KB3.out.cell (p := ⟨g, j, none⟩) hg).trans (hcell j y hy)
                  have hnl : ¬ x ≤ y := by omega
                  clear hrise hy
                  go_wp2
                  go_roundw
                  case rel => exact ⟨j + 2, by have := HLT.out; omega, by go_num, KB3.out⟩
                  case measure => simp [intOf]; omega
              · obtain rfl : k = N := by omega
                go_wp2
                go_ret
                exact ⟨rfl, YE4.out.trans (KB.out.mono YE4.out.size)⟩
      · have hz : n = 0 := by omega
        as_aux_lemma =>
          go_wp2_with fail
          refine (draw_SumProductNumbers _ xs1 _ (HS1.out.keep BE7.out) HL1.out).mono ?_
          rintro e y1 ⟨c, mo, rfl, hb⟩
          have YE1 := Lib.hid (BE7.out.trans (hb.mono BE7.out.size))
          clear hb
          go_wp2_with fail
          refine (impl_SumProductNumbers c mo _).mono ?_
          rintro e y2 ⟨u1, rfl, hr, hb⟩
          have R2 := Lib.hid hr
          have YE2 := Lib.hid (YE1.out.trans (hb.mono YE1.out.size))
          clear hr hb
          go_wp2_with fail
          refine (spec_SumProductNumbers c mo _).mono ?_
          rintro e y3 ⟨u2, rfl, hr, hb⟩
          have R3 := Lib.hid (R2.out.keep hb)
          have Q3 := Lib.hid hr
          have YE3 := Lib.hid (YE2.out.trans (hb.mono YE2.out.size))
          clear hr hb
          have HF := Lib.hid (fun (k : Nat) (x : Int) (hk : (LSP c mo)[k]? = some x) => lsp_facts hk)
          have HLL := Lib.hid (LSP_len c mo)
          obtain ⟨L, hL⟩ : ∃ L, L = LSP c mo := ⟨_, rfl⟩
          rw [← hL] at R3 Q3 HF HLL
          clear hL R2
          go_wp2_with fail
          refine (qSame_any _ _ L _ R3.out.sl Q3.out.sl HLL.out).mono ?_
          rintro e y4 ⟨rfl, hb⟩
          have R4 := Lib.hid (R3.out.keep hb)
          have YE4 := Lib.hid (YE3.out.trans (hb.mono YE3.out.size))
          clear hb
          obtain ⟨ga, gc, rfl, hgc, hlies⟩ := rd_lies6 R4.out
          have HLIES := Lib.hid hlies
          obtain ⟨N, hN⟩ : ∃ N, N = L.length := ⟨_, rfl⟩
          have HN := Lib.hid hN
          rw [← hN] at hgc ⊢
          have hN2 : N ≤ 2000000 := by rw [hN]; exact HLL.out
          clear hlies hN
          go_wp2
          go_loopw [233] (fun i wr => ∃ k : Nat, k ≤ N ∧ i = .int .i64 (k : Int) ∧ Below y4.heap.size y4 wr) (fun i _ => N - (intOf i).toNat)
          case atStart => exact ⟨0, Nat.zero_le _, rfl, Below.refl _ _⟩
          case round =>
            obtain ⟨k, hk, rfl, hb⟩ := hrel
            have KB := Lib.hid hb
            clear hb
            by_cases hlt : k < N
            · obtain ⟨x, hx⟩ : ∃ x, L[k]? = some x := ⟨L[k]'(by rw [← HN.out]; exact hlt), List.getElem?_eq_getElem _⟩
              rcases HLIES.out with h0 | ⟨g, rfl, hg, hcell⟩
              · exfalso; have := HN.out; omega
              have z0 := (KB.out.cell (p := ⟨g, k, none⟩) hg).trans (hcell k x hx)
              obtain ⟨hNx, hBc, x1, x2, hmul, hh, hrise⟩ := HF.out k x hx
              have HD1 := Lib.hid (fun w => impl_DigitSum x c w)
              have HD2 := Lib.hid (fun w => impl_DigitProduct x c w)
              have HD3 := Lib.hid (fun w => impl_IsHarshad x c w)
              have e1 : askI RDigitSum x c = some (sd c x) := if_pos ⟨hNx, hBc⟩
              have e2 : askI RDigitProduct x c = some (pd c x) := if_pos ⟨hNx, hBc⟩
              rw [e1] at HD1
              rw [e2] at HD2
              rw [(RIsHarshad_yes ⟨hNx, hBc⟩).1, (RIsHarshad_yes ⟨hNx, hBc⟩).2, hh] at HD3
              simp only [optRes] at HD1 HD2
              obtain ⟨s, hs⟩ : ∃ s, s = sd c x := ⟨_, rfl⟩
              obtain ⟨p, hp⟩ : ∃ p, p = pd c x := ⟨_, rfl⟩
              rw [← hs] at HD1 hmul
              rw [← hp] at HD2 hmul
              have HX := Lib.hid hx
              have HLT := Lib.hid hlt
              clear e1 e2 hh hs hp hx
              go_wp2_with fail
              refine (HD1.out _).mono ?_
              rintro e u3 ⟨rfl, hb⟩
              have KB1 := Lib.hid (KB.out.trans (hb.mono KB.out.size))
              clear hb z0
              go_wp2_with fail
              refine (HD2.out _).mono ?_
              rintro e u4 ⟨rfl, hb⟩
              have KB2 := Lib.hid (KB1.out.trans (hb.mono KB1.out.size))
              clear hb
              go_wp2_with fail
              refine (HD3.out _).mono ?_
              rintro e u5 ⟨rfl, hb⟩
              have KB3 := Lib.hid (KB2.out.trans (hb.mono KB2.out.size))
              clear hb
              cases k with
              | zero =>
                clear hrise
                go_wp2
                go_roundw
                case rel => exact ⟨1, by have := HLT.out; omega, by go_num, KB3.out⟩
                case measure => simp [intOf]; omega
              | succ j =>
                obtain ⟨y, hy⟩ : ∃ y, L[j]? = some y := ⟨L[j]'(by rw [← HN.out]; omega), List.getElem?_eq_getElem _⟩
                have hyx : y < x := hrise y (by omega) hy
                have z1 := (KB3.out.cell (p := ⟨g, j, none⟩) hg).trans (hcell j y hy)
                have hnl : ¬ x ≤ y := by omega
                clear hrise hy
                go_wp2
                go_roundw
                case rel => exact ⟨j + 2, by have := HLT.out; omega, by go_num, KB3.out⟩
                case measure => simp [intOf]; omega
            · obtain rfl : k = N := by omega
              go_wp2
              go_ret
              exact ⟨rfl, YE4.out.trans (KB.out.mono YE4.out.size)⟩
    | some m =>
      simp only [optRes] at HI1 HT1
      obtain ⟨m0, m1, m2, m3⟩ := HLE.out m rfl
      have HIM := Lib.hid (fun w => impl_IsHarshad m b w)
      have hqm : Num m ∧ Bas b := ⟨⟨by omega, m1⟩, hb0, hb1⟩
      rw [(RIsHarshad_yes hqm).1, (RIsHarshad_yes hqm).2, m2] at HIM
      have HIK := Lib.hid (fun (k : Int) (k0 : n < k) (k1 : k < m) w => impl_IsHarshad k b w)
      have HKF := Lib.hid (fun (k : Int) (k0 : n < k) (k1 : k < m) => And.intro (RIsHarshad_yes (show Num k ∧ Bas b from ⟨⟨by omega, by omega⟩, hb0, hb1⟩)) (m3 k k0 k1))
      clear m2 m3 hqm
      go_wp2_with fail
      refine (HI1.out _).mono ?_
      rintro e w2 ⟨rfl, hb⟩
      have BE2 := Lib.hid (BE1.out.trans (hb.mono BE1.out.size))
      clear hb
      go_wp2_with fail
      refine (HT1.out _).mono ?_
      rintro e w3 ⟨rfl, hb⟩
      have BE3 := Lib.hid (BE2.out.trans (hb.mono BE2.out.size))
      clear hb
      go_wp2_with fail
      refine (HI2.out _).mono ?_
      rintro e w4 ⟨rfl, hb⟩
      have BE4 := Lib.hid (BE3.out.trans (hb.mono BE3.out.size))
      clear hb
      go_wp2_with fail
      refine (HT2.out _).mono ?_
      rintro e w5 ⟨rfl, hb⟩
      have BE5 := Lib.hid (BE4.out.trans (hb.mono BE4.out.size))
      clear hb
      go_wp2_with fail
      refine (HI3.out _).mono ?_
      rintro e w6 ⟨rfl, hb⟩
      have BE6 := Lib.hid (BE5.out.trans (hb.mono BE5.out.size))
      clear hb
      go_wp2_with fail
      refine (HT3.out _).mono ?_
      rintro e w7 ⟨rfl, hb⟩
      have BE7 := Lib.hid (BE6.out.trans (hb.mono BE6.out.size))
      clear hb
      go_wp2_with fail
      refine (HIM.out _).mono ?_
      rintro e w8 ⟨rfl, hb⟩
      have BE8 := Lib.hid (BE7.out.trans (hb.mono BE7.out.size))
      clear hb
      go_wp2
      go_loopw [21] (fun i wr => ∃ k : Int, n < k ∧ k ≤ m ∧ i = .int .i64 k ∧ Below W.heap.size W wr) (fun i _ => (m - intOf i).toNat)
      case atStart => exact ⟨n + 1, by omega, by omega, by go_num, BE8.out⟩
      case round =>
        obtain ⟨k, kn, km, rfl, hb⟩ := hrel
        have BE9 := Lib.hid hb
        clear hb
        by_cases hlt : k < m
        · have HK := Lib.hid (HIK.out k kn hlt)
          rw [(HKF.out k kn hlt).1.1, (HKF.out k kn hlt).1.2, (HKF.out k kn hlt).2] at HK
          go_wp2_with fail
          refine (HK.out _).mono ?_
          rintro e w10 ⟨rfl, hb⟩
          have BE10 := Lib.hid (BE9.out.trans (hb.mono BE9.out.size))
          clear hb
          go_wp2
          go_roundw
          case rel => exact ⟨k + 1, by omega, by omega, by go_num, BE10.out⟩
          case measure => simp [intOf]; omega
        · obtain rfl : k = m := by omega
          by_cases hpos : 0 < n
          · have hs0 : 0 < s := HSP.out hpos
            have hs1 : ¬ s = 0 := by omega
            have t1 : n.tmod s = n % s := Int.tmod_eq_emod_of_nonneg n0
            have t2 : (n % s == 0) = hh := by rw [HHS.out, decide_eq_true hpos]; rfl
            go_wp2_with fail
            refine (HDS.out _).mono ?_
            rintro e w10 ⟨rfl, hb⟩
            have BE10 := Lib.hid (BE9.out.trans (hb.mono BE9.out.size))
            clear hb
            go_wp2_with fail
            refine (HDP.out _).mono ?_
            rintro e w11 ⟨rfl, hb⟩
            have BE11 := Lib.hid (BE10.out.trans (hb.mono BE10.out.size))
            clear hb
            by_cases hpp : 0 < p
            · have hp1 : ¬ p = 0 := by omega
              have t3 : n.tmod p = n % p := Int.tmod_eq_emod_of_nonneg n0
              have t4 : (n % p == 0) = zz := by rw [HZK.out, decide_eq_true hpp]; rfl
              as_aux_lemma =>
                go_wp2_with fail
                refine (draw_SumProductNumbers _ xs1 _ (HS1.out.keep BE11.out) HL1.out).mono ?_
                rintro e y1 ⟨c, mo, rfl, hb⟩
                have YE1 := Lib.hid (BE11.out.trans (hb.mono BE11.out.size))
                clear hb
                go_wp2_with fail
                refine (impl_SumProductNumbers c mo _).mono ?_
                rintro e y2 ⟨u1, rfl, hr, hb⟩
                have R2 := Lib.hid hr
                have YE2 := Lib.hid (YE1.out.trans (hb.mono YE1.out.size))
                clear hr hb
                go_wp2_with fail
                refine (spec_SumProductNumbers c mo _).mono ?_
                rintro e y3 ⟨u2, rfl, hr, hb⟩
                have R3 := Lib.hid (R2.out.keep hb)
                have Q3 := Lib.hid hr
                have YE3 := Lib.hid (YE2.out.trans (hb.mono YE2.out.size))
                clear hr hb
                have HF := Lib.hid (fun (k : Nat) (x : Int) (hk : (LSP c mo)[k]? = some x) => lsp_facts hk)
                have HLL := Lib.hid (LSP_len c mo)
                obtain ⟨L, hL⟩ : ∃ L, L = LSP c mo := ⟨_, rfl⟩
                rw [← hL] at R3 Q3 HF HLL
                clear hL R2
                go_wp2_with fail
                refine (qSame_any _ _ L _ R3.out.sl Q3.out.sl HLL.out).mono ?_
                rintro e y4 ⟨rfl, hb⟩
                have R4 := Lib.hid (R3.out.keep hb)
                have YE4 := Lib.hid (YE3.out.trans (hb.mono YE3.out.size))
                clear hb
                obtain ⟨ga, gc, rfl, hgc, hlies⟩ := rd_lies6 R4.out
                have HLIES := Lib.hid hlies
                obtain ⟨N, hN⟩ : ∃ N, N = L.length := ⟨_, rfl⟩
                have HN := Lib.hid hN
                rw [← hN] at hgc ⊢
                have hN2 : N ≤ 2000000 := by rw [hN]; exact HLL.out
                clear hlies hN
                go_wp2
                go_loopw [233] (fun i wr => ∃ k : Nat, k ≤ N ∧ i = .int .i64 (k : Int) ∧ Below y4.heap.size y4 wr) (fun i _ => N - (intOf i).toNat)
                case atStart => exact ⟨0, Nat.zero_le _, rfl, Below.refl _ _⟩
                case round =>
                  obtain ⟨k, hk, rfl, hb⟩ := hrel
                  have KB := Lib.hid hb
                  clear hb
                  by_cases hlt : k < N
                  · obtain ⟨x, hx⟩ : ∃ x, L[k]? = some x := ⟨L[k]'(by rw [← HN.out]; exact hlt), List.getElem?_eq_getElem _⟩
                    rcases HLIES.out with h0 | ⟨g, rfl, hg, hcell⟩
                    · exfalso; have := HN.out; omega
                    have z0 := (KB.out.cell (p := ⟨g, k, none⟩) hg).trans (hcell k x hx)
                    obtain ⟨hNx, hBc, x1, x2, hmul, hh, hrise⟩ := HF.out k x hx
                    have HD1 := Lib.hid (fun w => impl_DigitSum x c w)
                    have HD2 := Lib.hid (fun w => impl_DigitProduct x c w)
                    have HD3 := Lib.hid (fun w => impl_IsHarshad x c w)
                    have e1 : askI RDigitSum x c = some (sd c x) := if_pos ⟨hNx, hBc⟩
                    have e2 : askI RDigitProduct x c = some (pd c x) := if_pos ⟨hNx, hBc⟩
                    rw [e1] at HD1
                    rw [e2] at HD2
                    rw [(RIsHarshad_yes ⟨hNx, hBc⟩).1, (RIsHarshad_yes ⟨hNx, hBc⟩).2, hh] at HD3
                    simp only [optRes] at HD1 HD2
                    obtain ⟨s, hs⟩ : ∃ s, s = sd c x := ⟨_, rfl⟩
                    obtain ⟨p, hp⟩ : ∃ p, p = pd c x := ⟨_, rfl⟩
                    rw [← hs] at HD1 hmul
                    rw [← hp] at HD2 hmul
                    have HX := Lib.hid hx
                    have HLT := Lib.hid hlt
                    clear e1 e2 hh hs hp hx
                    go_wp2_with fail
                    refine (HD1.out _).mono ?_
                    rintro e u3 ⟨rfl, hb⟩
                    have KB1 := Lib.hid (KB.out.trans (hb.mono KB.out.size))
                    clear hb z0
                    go_wp2_with fail
                    refine (HD2.out _).mono ?_
                    rintro e u4 ⟨rfl, hb⟩
                    have KB2 := Lib.hid (KB1.out.trans (hb.mono KB1.out.size))
                    clear hb
                    go_wp2_with fail
                    refine (HD3.out _).mono ?_
                    rintro e u5 ⟨rfl, hb⟩
                    have KB3 := Lib.hid (KB2.out.trans (hb.mono KB2.out.size))
                    clear hb
                    cases k with
                    | zero =>
                      clear hrise
                      go_wp2
                      go_roundw
                      case rel => exact ⟨1, by have := HLT.out; omega, by go_num, KB3.out⟩
                      case measure => simp [intOf]; omega
                    | succ j =>
                      obtain ⟨y, hy⟩ : ∃ y, L[j]? = some y := ⟨L[j]'(by rw [← HN.out]; omega), List.getElem?_eq_getElem _⟩
                      have hyx : y < x := hrise y (by omega) hy
                      have z1 := (KB3.out.cell (p := ⟨g, j, none⟩) hg).trans (hcell j y hy)
                      have hnl : ¬ x ≤ y := by omega
                      clear hrise hy
                      go_wp2
                      go_roundw
                      case rel => exact ⟨j + 2, by have := HLT.out; omega, by go_num, KB3.out⟩
                      case measure => simp [intOf]; omega
                  · obtain rfl : k = N := by omega
                    go_wp2
                    go_ret
                    exact ⟨rfl, YE4.out.trans (KB.out.mono YE4.out.size)⟩
            · have t4 : zz = false := by rw [HZK.out, decide_eq_false hpp]; rfl
              subst t4
              as_aux_lemma =>
                go_wp2_with fail
                refine (draw_SumProductNumbers _ xs1 _ (HS1.out.keep BE11.out) HL1.out).mono ?_
                rintro e y1 ⟨c, mo, rfl, hb⟩
                have YE1 := Lib.hid (BE11.out.trans (hb.mono BE11.out.size))
                clear hb
                go_wp2_with fail
                refine (impl_SumProductNumbers c mo _).mono ?_
                rintro e y2 ⟨u1, rfl, hr, hb⟩
                have R2 := Lib.hid hr
                have YE2 := Lib.hid (YE1.out.trans (hb.mono YE1.out.size))
                clear hr hb
                go_wp2_with fail
                refine (spec_SumProductNumbers c mo _).mono ?_
                rintro e y3 ⟨u2, rfl, hr, hb⟩
                have R3 := Lib.hid (R2.out.keep hb)
                have Q3 := Lib.hid hr
                have YE3 := Lib.hid (YE2.out.trans (hb.mono YE2.out.size))
                clear hr hb
                have HF := Lib.hid (fun (k : Nat) (x : Int) (hk : (LSP c mo)[k]? = some x) => lsp_facts hk)
                have HLL := Lib.hid (LSP_len c mo)
                obtain ⟨L, hL⟩ : ∃ L, L = LSP c mo := ⟨_, rfl⟩
                rw [← hL] at R3 Q3 HF HLL
                clear hL R2
                go_wp2_with fail
                refine (qSame_any _ _ L _ R3.out.sl Q3.out.sl HLL.out).mono ?_
                rintro e y4 ⟨rfl, hb⟩
                have R4 := Lib.hid (R3.out.keep hb)
                have YE4 := Lib.hid (YE3.out.trans (hb.mono YE3.out.size))
                clear hb
                obtain ⟨ga, gc, rfl, hgc, hlies⟩ := rd_lies6 R4.out
                have HLIES := Lib.hid hlies
                obtain ⟨N, hN⟩ : ∃ N, N = L.length := ⟨_, rfl⟩
                have HN := Lib.hid hN
                rw [← hN] at hgc ⊢
                have hN2 : N ≤ 2000000 := by rw [hN]; exact HLL.out
                clear hlies hN
                go_wp2
                go_loopw [233] (fun i wr => ∃ k : Nat, k ≤ N ∧ i = .int .i64 (k : Int) ∧ Below y4.heap.size y4 wr) (fun i _ => N - (intOf i).toNat)
                case atStart => exact ⟨0, Nat.zero_le _, rfl, Below.refl _ _⟩
                case round =>
                  obtain ⟨k, hk, rfl, hb⟩ := hrel
                  have KB := Lib.hid hb
                  clear hb
                  by_cases hlt : k < N
                  · obtain ⟨x, hx⟩ : ∃ x, L[k]? = some x := ⟨L[k]'(by rw [← HN.out]; exact hlt), List.getElem?_eq_getElem _⟩
                    rcases HLIES.out with h0 | ⟨g, rfl, hg, hcell⟩
                    · exfalso; have := HN.out; omega
                    have z0 := (KB.out.cell (p := ⟨g, k, none⟩) hg).trans (hcell k x hx)
                    obtain ⟨hNx, hBc, x1, x2, hmul, hh, hrise⟩ := HF.out k x hx
                    have HD1 := Lib.hid (fun w => impl_DigitSum x c w)
                    have HD2 := Lib.hid (fun w => impl_DigitProduct x c w)
                    have HD3 := Lib.hid (fun w => impl_IsHarshad x c w)
                    have e1 : askI RDigitSum x c = some (sd c x) := if_pos ⟨hNx, hBc⟩
                    have e2 : askI RDigitProduct x c = some (pd c x) := if_pos ⟨hNx, hBc⟩
                    rw [e1] at HD1
                    rw [e2] at HD2
                    rw [(RIsHarshad_yes ⟨hNx, hBc⟩).1, (RIsHarshad_yes ⟨hNx, hBc⟩).2, hh] at HD3
                    simp only [optRes] at HD1 HD2
                    obtain ⟨s, hs⟩ : ∃ s, s = sd c x := ⟨_, rfl⟩
                    obtain ⟨p, hp⟩ : ∃ p, p = pd c x := ⟨_, rfl⟩
                    rw [← hs] at HD1 hmul
                    rw [← hp] at HD2 hmul
                    have HX := Lib.hid hx
                    have HLT := Lib.hid hlt
                    clear e1 e2 hh hs hp hx
                    go_wp2_with fail
                    refine (HD1.out _).mono ?_
                    rintro e u3 ⟨rfl, hb⟩
                    have KB1 := Lib.hid (KB.out.trans (hb.mono KB.out.size))
                    clear hb z0
                    go_wp2_with fail
                    refine (HD2.out _).mono ?_
                    rintro e u4 ⟨rfl, hb⟩
                    have KB2 := Lib.hid (KB1.out.trans (hb.mono KB1.out.size))
                    clear hb
                    go_wp2_with fail
                    refine (HD3.out _).mono ?_
                    rintro e u5 ⟨rfl, hb⟩
                    have KB3 := Lib.hid (KB2.out.trans (hb.mono KB2.out.size))
                    clear hb
                    cases k with
                    | zero =>
                      clear hrise
                      go_wp2
                      go_roundw
                      case rel => exact ⟨1, by have := HLT.out; omega, by go_num, KB3.out⟩
                      case measure => simp [intOf]; omega
                    | succ j =>
                      obtain ⟨y, hy⟩ : ∃ y, L[j]? = some y := ⟨L[j]'(by rw [← HN.out]; omega), List.getElem?_eq_getElem _⟩
                      have hyx : y < x := hrise y (by omega) hy
                      have z1 := (KB3.out.cell (p := ⟨g, j, none⟩) hg).trans (hcell j y hy)
                      have hnl : ¬ x ≤ y := by omega
                      clear hrise hy
                      go_wp2
                      go_roundw
                      case rel => exact ⟨j + 2, by have := HLT.out; omega, by go_num, KB3.out⟩
                      case measure => simp [intOf]; omega
                  · obtain rfl : k = N := by omega
                    go_wp2
                    go_ret
                    exact ⟨rfl, YE4.out.trans (KB.out.mono YE4.out.size)⟩
          · have hz : n = 0 := by omega
            as_aux_lemma =>
              go_wp2_with fail
              refine (draw_SumProductNumbers _ xs1 _ (HS1.out.keep BE9.out) HL1.out).mono ?_
              rintro e y1 ⟨c, mo, rfl, hb⟩
              have YE1 := Lib.hid (BE9.out.trans (hb.mono BE9.out.size))
              clear hb
              go_wp2_with fail
              refine (impl_SumProductNumbers c mo _).mono ?_
              rintro e y2 ⟨u1, rfl, hr, hb⟩
              have R2 := Lib.hid hr
              have YE2 := Lib.hid (YE1.out.trans (hb.mono YE1.out.size))
              clear hr hb
              go_wp2_with fail
              refine (spec_SumProductNumbers c mo _).mono ?_
              rintro e y3 ⟨u2, rfl, hr, hb⟩
              have R3 := Lib.hid (R2.out.keep hb)
              have Q3 := Lib.hid hr
              have YE3 := Lib.hid (YE2.out.trans (hb.mono YE2.out.size))
              clear hr hb
              have HF := Lib.hid (fun (k : Nat) (x : Int) (hk : (LSP c mo)[k]? = some x) => lsp_facts hk)
              have HLL := Lib.hid (LSP_len c mo)
              obtain ⟨L, hL⟩ : ∃ L, L = LSP c mo := ⟨_, rfl⟩
              rw [← hL] at R3 Q3 HF HLL
              clear hL R2
              go_wp2_with fail
              refine (qSame_any _ _ L _ R3.out.sl Q3.out.sl HLL.out).mono ?_
              rintro e y4 ⟨rfl, hb⟩
              have R4 := Lib.hid (R3.out.keep hb)
              have YE4 := Lib.hid (YE3.out.trans (hb.mono YE3.out.size))
              clear hb
              obtain ⟨ga, gc, rfl, hgc, hlies⟩ := rd_lies6 R4.out
              have HLIES := Lib.hid hlies
              obtain ⟨N, hN⟩ : ∃ N, N = L.length := ⟨_, rfl⟩
              have HN := Lib.hid hN
              rw [← hN] at hgc ⊢
              have hN2 : N ≤ 2000000 := by rw [hN]; exact HLL.out
              clear hlies hN
              go_wp2
              go_loopw [233] (fun i wr => ∃ k : Nat, k ≤ N ∧ i = .int .i64 (k : Int) ∧ Below y4.heap.size y4 wr) (fun i _ => N - (intOf i).toNat)
              case atStart => exact ⟨0, Nat.zero_le _, rfl, Below.refl _ _⟩
              case round =>
                obtain ⟨k, hk, rfl, hb⟩ := hrel
                have KB := Lib.hid hb
                clear hb
                by_cases hlt : k < N
                · obtain ⟨x, hx⟩ : ∃ x, L[k]? = some x := ⟨L[k]'(by rw [← HN.out]; exact hlt), List.getElem?_eq_getElem _⟩
                  rcases HLIES.out with h0 | ⟨g, rfl, hg, hcell⟩
                  · exfalso; have := HN.out; omega
                  have z0 := (KB.out.cell (p := ⟨g, k, none⟩) hg).trans (hcell k x hx)
                  obtain ⟨hNx, hBc, x1, x2, hmul, hh, hrise⟩ := HF.out k x hx
                  have HD1 := Lib.hid (fun w => impl_DigitSum x c w)
                  have HD2 := Lib.hid (fun w => impl_DigitProduct x c w)
                  have HD3 := Lib.hid (fun w => impl_IsHarshad x c w)
                  have e1 : askI RDigitSum x c = some (sd c x) := if_pos ⟨hNx, hBc⟩
                  have e2 : askI RDigitProduct x c = some (pd c x) := if_pos ⟨hNx, hBc⟩
                  rw [e1] at HD1
                  rw [e2] at HD2
                  rw [(RIsHarshad_yes ⟨hNx, hBc⟩).1, (RIsHarshad_yes ⟨hNx, hBc⟩).2, hh] at HD3
                  simp only [optRes] at HD1 HD2
                  obtain ⟨s, hs⟩ : ∃ s, s = sd c x := ⟨_, rfl⟩
                  obtain ⟨p, hp⟩ : ∃ p, p = pd c x := ⟨_, rfl⟩
                  rw [← hs] at HD1 hmul
                  rw [← hp] at HD2 hmul
                  have HX := Lib.hid hx
                  have HLT := Lib.hid hlt
                  clear e1 e2 hh hs hp hx
                  go_wp2_with fail
                  refine (HD1.out _).mono ?_
                  rintro e u3 ⟨rfl, hb⟩
                  have KB1 := Lib.hid (KB.out.trans (hb.mono KB.out.size))
                  clear hb z0
                  go_wp2_with fail
                  refine (HD2.out _).mono ?_
                  rintro e u4 ⟨rfl, hb⟩
                  have KB2 := Lib.hid (KB1.out.trans (hb.mono KB1.out.size))
                  clear hb
                  go_wp2_with fail
                  refine (HD3.out _).mono ?_
                  rintro e u5 ⟨rfl, hb⟩
                  have KB3 := Lib.hid (KB2.out.trans (hb.mono KB2.out.size))
                  clear hb
                  cases k with
                  | zero =>
                    clear hrise
                    go_wp2
                    go_roundw
                    case rel => exact ⟨1, by have := HLT.out; omega, by go_num, KB3.out⟩
                    case measure => simp [intOf]; omega
                  | succ j =>
                    obtain ⟨y, hy⟩ : ∃ y, L[j]? = some y := ⟨L[j]'(by rw [← HN.out]; omega), List.getElem?_eq_getElem _⟩
                    have hyx : y < x := hrise y (by omega) hy
                    have z1 := (KB3.out.cell (p := ⟨g, j, none⟩) hg).trans (hcell j y hy)
                    have hnl : ¬ x ≤ y := by omega
                    clear hrise hy
                    go_wp2
                    go_roundw
                    case rel => exact ⟨j + 2, by have := HLT.out; omega, by go_num, KB3.out⟩
                    case measure => simp [intOf]; omega
                · obtain rfl : k = N := by omega
                  go_wp2
                  go_ret
                  exact ⟨rfl, YE4.out.trans (KB.out.mono YE4.out.size)⟩
  · have e1 : askF RNextHarshad n b = none := if_neg hq
    rw [e1] at HI1 HT1
    rw [(RIsHarshad_no hq).1, (RIsHarshad_no hq).2] at HI2 HT2
    rw [(RIsZuckerman_no hq).1, (RIsZuckerman_no hq).2] at HI3 HT3
    simp only [optRes] at HI1 HT1
    clear hq e1
    go_wp2_with fail
    refine (HI1.out _).mono ?_
    rintro e w2 ⟨rfl, hb⟩
    have BE2 := Lib.hid (BE1.out.trans (hb.mono BE1.out.size))
    clear hb
    go_wp2_with fail
    refine (HT1.out _).mono ?_
    rintro e w3 ⟨rfl, hb⟩
    have BE3 := Lib.hid (BE2.out.trans (hb.mono BE2.out.size))
    clear hb
    go_wp2_with fail
    refine (HI2.out _).mono ?_
    rintro e w4 ⟨rfl, hb⟩
    have BE4 := Lib.hid (BE3.out.trans (hb.mono BE3.out.size))
    clear hb
    go_wp2_with fail
    refine (HT2.out _).mono ?_
    rintro e w5 ⟨rfl, hb⟩
    have BE5 := Lib.hid (BE4.out.trans (hb.mono BE4.out.size))
    clear hb
    go_wp2_with fail
    refine (HI3.out _).mono ?_
    rintro e w6 ⟨rfl, hb⟩
    have BE6 := Lib.hid (BE5.out.trans (hb.mono BE5.out.size))
    clear hb
    go_wp2_with fail
    refine (HT3.out _).mono ?_
    rintro e w7 ⟨rfl, hb⟩
    have BE7 := Lib.hid (BE6.out.trans (hb.mono BE6.out.size))
    clear hb
    as_aux_lemma =>
      go_wp2_with fail
      refine (draw_SumProductNumbers _ xs1 _ (HS1.out.keep BE7.out) HL1.out).mono ?_
      rintro e y1 ⟨c, mo, rfl, hb⟩
      have YE1 := Lib.hid (BE7.out.trans (hb.mono BE7.out.size))
      clear hb
      go_wp2_with fail
      refine (impl_SumProductNumbers c mo _).mono ?_
      rintro e y2 ⟨u1, rfl, hr, hb⟩
      have R2 := Lib.hid hr
      have YE2 := Lib.hid (YE1.out.trans (hb.mono YE1.out.size))
      clear hr hb
      go_wp2_with fail
      refine (spec_SumProductNumbers c mo _).mono ?_
      rintro e y3 ⟨u2, rfl, hr, hb⟩
      have R3 := Lib.hid (R2.out.keep hb)
      have Q3 := Lib.hid hr
      have YE3 := Lib.hid (YE2.out.trans (hb.mono YE2.out.size))
      clear hr hb
      have HF := Lib.hid (fun (k : Nat) (x : Int) (hk : (LSP c mo)[k]? = some x) => lsp_facts hk)
      have HLL := Lib.hid (LSP_len c mo)
      obtain ⟨L, hL⟩ : ∃ L, L = LSP c mo := ⟨_, rfl⟩
      rw [← hL] at R3 Q3 HF HLL
      clear hL R2
      go_wp2_with fail
      refine (qSame_any _ _ L _ R3.out.sl Q3.out.sl HLL.out).mono ?_
      rintro e y4 ⟨rfl, hb⟩
      have R4 := Lib.hid (R3.out.keep hb)
      have YE4 := Lib.hid (YE3.out.trans (hb.mono YE3.out.size))
      clear hb
      obtain ⟨ga, gc, rfl, hgc, hlies⟩ := rd_lies6 R4.out
      have HLIES := Lib.hid hlies
      obtain ⟨N, hN⟩ : ∃ N, N = L.length := ⟨_, rfl⟩
      have HN := Lib.hid hN
      rw [← hN] at hgc ⊢
      have hN2 : N ≤ 2000000 := by rw [hN]; exact HLL.out
      clear hlies hN
      go_wp2
      go_loopw [233] (fun i wr => ∃ k : Nat, k ≤ N ∧ i = .int .i64 (k : Int) ∧ Below y4.heap.size y4 wr) (fun i _ => N - (intOf i).toNat)
      case atStart => exact ⟨0, Nat.zero_le _, rfl, Below.refl _ _⟩
      case round =>
        obtain ⟨k, hk, rfl, hb⟩ := hrel
        have KB := Lib.hid hb
        clear hb
        by_cases hlt : k < N
        · obtain ⟨x, hx⟩ : ∃ x, L[k]? = some x := ⟨L[k]'(by rw [← HN.out]; exact hlt), List.getElem?_eq_getElem _⟩
          rcases HLIES.out with h0 | ⟨g, rfl, hg, hcell⟩
          · exfalso; have := HN.out; omega
          have z0 := (KB.out.cell (p := ⟨g, k, none⟩) hg).trans (hcell k x hx)
          obtain ⟨hNx, hBc, x1, x2, hmul, hh, hrise⟩ := HF.out k x hx
          have HD1 := Lib.hid (fun w => impl_DigitSum x c w)
          have HD2 := Lib.hid (fun w => impl_DigitProduct x c w)
          have HD3 := Lib.hid (fun w => impl_IsHarshad x c w)
          have e1 : askI RDigitSum x c = some (sd c x) := if_pos ⟨hNx, hBc⟩
          have e2 : askI RDigitProduct x c = some (pd c x) := if_pos ⟨hNx, hBc⟩
          rw [e1] at HD1
          rw [e2] at HD2
          rw [(RIsHarshad_yes ⟨hNx, hBc⟩).1, (RIsHarshad_yes ⟨hNx, hBc⟩).2, hh] at HD3
          simp only [optRes] at HD1 HD2
          obtain ⟨s, hs⟩ : ∃ s, s = sd c x := ⟨_, rfl⟩
          obtain ⟨p, hp⟩ : ∃ p, p = pd c x := ⟨_, rfl⟩
          rw [← hs] at HD1 hmul
          rw [← hp] at HD2 hmul
          have HX := Lib.hid hx
          have HLT := Lib.hid hlt
          clear e1 e2 hh hs hp hx
          go_wp2_with fail
          refine (HD1.out _).mono ?_
          rintro e u3 ⟨rfl, hb⟩
          have KB1 := Lib.hid (KB.out.trans (hb.mono KB.out.size))
          clear hb z0
          go_wp2_with fail
          refine (HD2.out _).mono ?_
          rintro e u4 ⟨rfl, hb⟩
          have KB2 := Lib.hid (KB1.out.trans (hb.mono KB1.out.size))
          clear hb
          go_wp2_with fail
          refine (HD3.out _).mono ?_
          rintro e u5 ⟨rfl, hb⟩
          have KB3 := Lib.hid (KB2.out.trans (hb.mono KB2.out.size))
          clear hb
          cases k with
          | zero =>
            clear hrise
            go_wp2
            go_roundw
            case rel => exact ⟨1, by have := HLT.out; omega, by go_num, KB3.out⟩
            case measure => simp [intOf]; omega
          | succ j =>
            obtain ⟨y, hy⟩ : ∃ y, L[j]? = some y := ⟨L[j]'(by rw [← HN.out]; omega), List.getElem?_eq_getElem _⟩
            have hyx : y < x := hrise y (by omega) hy
            have z1 := (KB3.out.cell (p := ⟨g, j, none⟩) hg).trans (hcell j y hy)
            have hnl : ¬ x ≤ y := by omega
            clear hrise hy
            go_wp2
            go_roundw
            case rel => exact ⟨j + 2, by have := HLT.out; omega, by go_num, KB3.out⟩
            case measure => simp [intOf]; omega
        · obtain rfl : k = N := by omega
          go_wp2
          go_ret
          exact ⟨rfl, YE4.out.trans (KB.out.mono YE4.out.size)⟩

end Go.Proofs.Ytdlohdjejmpmcaa
