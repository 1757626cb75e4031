/-
  The law of pairs, perfect numbers and sources, walked.
-/
import Derived.Deep.QuietTactic
import Derived.BigQuiet
import Derived.Test.Ytlpmfapjgmhbhaa0R
import Derived.Test.Ytlpmfapjgmhbhaa0S
namespace Go.Proofs.Ytlpmfapjgmhbhaa
open Go.RowKit
set_option linter.unusedVariables false
set_option linter.unusedSimpArgs false
set_option maxRecDepth 100000

theorem below_drewQ {B : Nat} {a w : World} (h : Below B a w) (n : Nat) : Below B a (w.drewN n) := ⟨h.1, h.2, h.3, h.4, h.5⟩

/-- What the law asks of the pairs. -/
structure PairFacts (ls : List (List Int)) : Prop where
  row : ∀ k, k < ls.length → ∃ a b : Int, lsZ ls k = [a, b] ∧ RPtn a = some b ∧ a < b
  rise : ∀ k, k + 1 < ls.length → (lsZ ls k).getD 0 0 < (lsZ ls (k + 1)).getD 0 0
theorem lsZ_lt {ls : List (List Int)} {k : Nat} (h : k < ls.length) : lsZ ls k = ls[k] := by simp [lsZ, h]
theorem pair_facts (n : Int) : PairFacts (LF_PairsUpTo n) := by
  unfold LF_PairsUpTo
  split
  · rename_i h
    have hr := prs_rise n.toNat
    have hm := prs_mem n.toNat
    have h2 := h.2
    obtain ⟨ls, hls⟩ : ∃ ls, ls = prs n.toNat := ⟨_, rfl⟩
    rw [← hls] at hr hm ⊢
    refine ⟨fun k hk => ?_, fun k hk => ?_⟩
    · obtain ⟨a, b, e, h3, h4, h5, h6⟩ := hm (ls[k]) (List.getElem_mem hk)
      refine ⟨a, b, by rw [lsZ_lt hk, e], ?_, h5⟩
      unfold RPtn
      rw [if_pos ⟨⟨h3, by omega⟩, by omega⟩, h6]
    · rw [lsZ_lt hk, lsZ_lt (by omega)]
      exact List.pairwise_iff_getElem.1 hr k (k + 1) (by omega) hk (by omega)
  · exact ⟨fun k hk => by simp at hk, fun k hk => by simp at hk⟩

/-- What the law asks of sources. -/
structure SrcFacts (s : Int) (l : List Int) : Prop where
  row : ∀ k, k < l.length → dvR prop (l.getD k 0) = some s
  rise : ∀ k, k + 1 < l.length → l.getD k 0 < l.getD (k + 1) 0
theorem src_facts (s : Int) : SrcFacts s (LF_SourcesOf s) := by
  unfold LF_SourcesOf
  split
  · rename_i h
    have h1 := h.1
    have h2 := h.2
    have hr := srcTo_rise ((s.toNat : Nat) : Int) (upTo s.toNat)
    have hm := srcTo_mem ((s.toNat : Nat) : Int) (upTo s.toNat)
    have hu := upTo_le (m := s.toNat) (by omega)
    rw [show ((s.toNat : Nat) : Int) = s by omega] at hr hm
    rw [show srcAll s.toNat = srcTo s (upTo s.toNat) by unfold srcAll; rw [show ((s.toNat : Nat) : Int) = s by omega]]
    obtain ⟨l, hl⟩ : ∃ l, l = srcTo s (upTo s.toNat) := ⟨_, rfl⟩
    rw [← hl] at hr hm ⊢
    refine ⟨fun k hk => ?_, fun k hk => ?_⟩
    · obtain ⟨h3, h4, h5⟩ := hm (l[k]) (List.getElem_mem hk)
      rw [getD_lt hk, dvR_yes ⟨h3, by omega⟩, h5]
    · rw [getD_lt hk, getD_lt (by omega)]
      exact List.pairwise_iff_getElem.1 hr k (k + 1) (by omega) hk (by omega)
  · exact ⟨fun k hk => by simp at hk, fun k hk => by simp at hk⟩
theorem miss_facts {s m : Int} (hs : OK_SourcesOf s = true) (hm : OK_NoSources m = true) (h : s ≤ m) : s ∈ LF_NoSources m ↔ (LF_SourcesOf s).length = 0 := by
  have hs' : Sd s := of_decide_eq_true hs
  have hm' : Nd m := of_decide_eq_true hm
  rw [show LF_NoSources m = nsr (upTo m.toNat) (m.toNat - 1) from if_pos hm', show LF_SourcesOf s = srcAll s.toNat from if_pos hs']
  have h1 := hs'.1
  have h2 := hm'.2
  have := miss_iff (n := s.toNat) (m := m.toNat) (by omega) (by omega) (by omega)
  rw [show ((s.toNat : Nat) : Int) = s by omega] at this
  exact this
theorem mem_take_succ {l : List Int} {s : Int} {j : Nat} (h : j < l.length) : (decide (s ∈ l.take (j + 1))) = (decide (s ∈ l.take j) || (l.getD j 0 == s)) := by
  have e : l.take (j + 1) = l.take j ++ [l[j]] := by rw [List.take_add_one, List.getElem?_eq_getElem h]; rfl
  rw [e, getD_lt h]
  by_cases c : l[j] = s
  · rw [beq_yes c, Bool.or_true]; exact decide_eq_true (List.mem_append.2 (.inr (List.mem_singleton.2 c.symm)))
  · rw [beq_no c, Bool.or_false]
    by_cases d : s ∈ l.take j
    · rw [decide_eq_true d]; exact decide_eq_true (List.mem_append.2 (.inl d))
    · rw [decide_eq_false d]; exact decide_eq_false (fun h => (List.mem_append.1 h).elim d (fun h => c (List.mem_singleton.1 h).symm))
theorem rd_form {w : World} {B : Nat} {v : Value} {xs : List Int} (h : Rd w B v xs) : ∃ a cap, v = .slice a xs.length cap ∧ (xs.length = 0 ∨ ∃ g, a = some ⟨g, 0, none⟩) := by
  by_cases h1 : 1 ≤ xs.length
  · obtain ⟨g, cap, hv, _⟩ := rd_some h h1
    exact ⟨_, cap, hv, .inr ⟨g, rfl⟩⟩
  · rcases h.cases with ⟨hv, hx⟩ | ⟨g, cap, hu, _, _, h9, _⟩
    · rw [hx]; exact ⟨none, 0, hv, .inl rfl⟩
    · exact ⟨_, cap, hu, .inr ⟨g, rfl⟩⟩

set_option maxHeartbeats 8000000 in
theorem law_PairsAndPerfect {W : World} (v0 : Value) (xs0 : List Int) (hs0 : Sb W v0 xs0) (v1 : Value) (xs1 : List Int) (hs1 : Sb W v1 xs1) :
    Calls Try.prog 4 #[v0, v1] W fun e w' => e = .returned (.bool true) ∧ Below W.heap.size W w' := by
  have HS0 := Lib.hid hs0
  have HS1 := Lib.hid hs1
  obtain ⟨a0, c0, rfl⟩ := hs0.len
  obtain ⟨a1, c1, rfl⟩ := hs1.len
  clear hs0 hs1
  by_cases hbig : 1048576 < xs0.length ∨ 1048576 < xs0.length + xs1.length
  · have HBG := Lib.hid (big_any a0 a1 xs0.length xs1.length c0 c1 W)
    rw [decide_eq_true hbig] at HBG
    obtain ⟨n0, hn0⟩ : ∃ n0, n0 = xs0.length := ⟨_, rfl⟩
    obtain ⟨n1, hn1⟩ : ∃ n1, n1 = xs1.length := ⟨_, rfl⟩
    rw [← hn0, ← hn1] at HBG ⊢
    clear hbig hn0 hn1 HS0 HS1
    go_enter Try.func4, Try.ntmps4
    go_wp2_with (go_at_call 6; refine HBG.out.mono ?_; rintro e w1 ⟨rfl, rfl⟩)
    go_ret
    exact ⟨rfl, Below.refl _ _⟩
  · have HBG := Lib.hid (big_any a0 a1 xs0.length xs1.length c0 c1 W)
    rw [decide_eq_false hbig] at HBG
    have hl0 : xs0.length ≤ 1048576 := by omega
    have hl1 : xs1.length ≤ 1048576 := by omega
    clear hbig
    go_enter Try.func4, Try.ntmps4
    go_wp2_with (go_at_call 6; refine HBG.out.mono ?_; rintro e w1 ⟨rfl, rfl⟩)
    refine (draw_PairsUpTo _ xs0 _ HS0.out hl0).mono ?_
    rintro e w1 ⟨n, rfl, hb⟩
    have B1 := Lib.hid hb
    clear hb HBG
    have PF := Lib.hid (pair_facts n)
    have HIP := Lib.hid (fun w' => impl_PairsUpTo n w')
    have HSP := Lib.hid (fun w' => spec_PairsUpTo n w')
    have hbd := LF_PairsUpTo_bd n
    obtain ⟨q, hq⟩ : ∃ q, q = OK_PairsUpTo n := ⟨_, rfl⟩
    obtain ⟨ls, hls⟩ : ∃ ls, ls = LF_PairsUpTo n := ⟨_, rfl⟩
    rw [← hq, ← hls] at HIP HSP
    rw [← hls] at PF hbd
    obtain ⟨hls1, hls2⟩ := hbd
    have HLS2 := Lib.hid hls2
    clear hq hls hls2
    go_wp2_with fail
    refine (HIP.out _).mono ?_
    rintro e w2 ⟨u, vs, rfl, hr, hb⟩
    have L2 := Lib.hid (hr.mono B1.out.size)
    have B2 := Lib.hid (Below.step B1.out B1.out.size hb)
    clear hr hb
    go_wp2_with fail
    refine (HSP.out _).mono ?_
    rintro e w3 ⟨u2, vs2, rfl, hr, hb⟩
    have L3 := Lib.hid (L2.out.keep hb)
    have M3 := Lib.hid (hr.mono B2.out.size)
    have B3 := Lib.hid (Below.step B2.out B2.out.size hb)
    clear hr hb
    go_wp2_with fail
    refine (qSameRows_any _ _ vs vs2 (lsZ ls) _ _ _ L3.out.f M3.out.f (by rw [L3.out.len, M3.out.len]) (by rw [L3.out.len]; exact hls1) (fun i => by have := HLS2.out i; omega)).mono ?_
    rintro e w4 ⟨rfl, hb⟩
    have HF0 := Lib.hid ((L3.out.keep hb).f)
    have HNL0 := Lib.hid L3.out.len
    have B4 := Lib.hid (Below.step B3.out B3.out.size hb)
    clear hb
    obtain ⟨a, cap, rfl, ha⟩ := HF0.out.shape
    have HA := Lib.hid ha
    obtain ⟨N, hN⟩ : ∃ N, N = vs.length := ⟨_, rfl⟩
    have HN := Lib.hid hN
    have HNL := Lib.hid (hN.trans HNL0.out)
    have hN40 : N ≤ 40000 := by rw [HNL.out]; exact hls1
    rw [← hN] at HF0 ⊢
    have HF := HF0
    clear ha hN L2 L3 M3 HNL0 HLS2 hls1 HIP HSP HF0
    go_wp2
    go_loopw [73] (fun i wr => ∃ k : Nat, k ≤ N ∧ i = .int .i64 (k : Int) ∧ Below w4.heap.size w4 wr) (fun i _ => N - (intOf i).toNat)
    case atStart => exact ⟨0, Nat.zero_le _, rfl, Below.refl _ _⟩
    case round =>
      obtain ⟨k, hk, rfl, hb⟩ := hrel
      have HB := Lib.hid hb
      clear hb
      by_cases hlt : k < N
      · rcases HA.out with hx | ⟨gv, rfl⟩
        · have := HN.out; rw [hx] at this; simp at this; omega
        obtain ⟨x, y, hxy, hpt, hxl⟩ := PF.out.row k (by rw [← HNL.out]; exact hlt)
        obtain ⟨z, hz⟩ : ∃ z, vs[k]? = some z := ⟨vs[k]'(by rw [← HN.out]; exact hlt), by simp⟩
        have hc := (HF.out.keep HB.out).cell hz
        have hR := (HF.out.keep HB.out).at' k z hz
        have hzx : (lsZ ls k).getD 0 0 = x := by rw [hxy]; rfl
        rw [hxy] at hR
        have R := Lib.hid hR
        obtain ⟨gz, cz, hzv, _⟩ := rd_some R.out (by simp)
        have hzv2 : z = .slice (some ⟨gz, 0, none⟩) 2 cz := hzv
        subst hzv2
        clear hR hzv hz
        have HZ := Lib.hid (show ∀ (w' : World), Below wr.heap.size wr w' → w'.cell? ⟨gz, 0, none⟩ = some (.int .i64 x) ∧ w'.cell? ⟨gz, 1, none⟩ = some (.int .i64 y) from fun w' hb => ⟨rd_get (R.out.keep hb) 0 (by simp), rd_get (R.out.keep hb) 1 (by simp)⟩)
        have HCV := Lib.hid (show ∀ (w' : World) (z : Value), vs[k]? = some z → Below wr.heap.size wr w' → w'.cell? ⟨gv, k, none⟩ = some z from fun w' z hz hb => ((HF.out.keep HB.out).keep hb).cell hz)
        have hc0 := (HZ.out _ (Below.refl _ _)).1
        have HPA := Lib.hid (fun w' => impl_PartnerOf x w')
        rw [hpt] at HPA
        have hyy : (y != y) = false := bne_no rfl
        have hyx : decide (y ≤ x) = false := decide_eq_false (by omega)
        by_cases h0 : 0 < k
        · have hi0 : (0 : Int) < (k : Int) := by omega
          obtain ⟨j, hj⟩ : ∃ j, k = j + 1 := ⟨k - 1, by omega⟩
          have hjN : j < N := by omega
          obtain ⟨x2, y2, hxy2, _, _⟩ := PF.out.row j (by rw [← HNL.out]; exact hjN)
          have hris := PF.out.rise j (by rw [← HNL.out]; omega)
          rw [← hj, hzx, hxy2] at hris
          have hris2 : decide (x ≤ x2) = false := decide_eq_false (by have : x2 < x := hris; omega)
          obtain ⟨z2, hz2⟩ : ∃ z2, vs[j]? = some z2 := ⟨vs[j]'(by rw [← HN.out]; exact hjN), by simp⟩
          have hR2 := (HF.out.keep HB.out).at' j z2 hz2
          rw [hxy2] at hR2
          have R2 := Lib.hid hR2
          obtain ⟨gz2, cz2, hzv2, _⟩ := rd_some R2.out (by simp)
          have hzv22 : z2 = .slice (some ⟨gz2, 0, none⟩) 2 cz2 := hzv2
          subst hzv22
          have HZ2 := Lib.hid (show ∀ (w' : World), Below wr.heap.size wr w' → w'.cell? ⟨gv, j, none⟩ = some (.slice (some ⟨gz2, 0, none⟩) 2 cz2) ∧ w'.cell? ⟨gz2, 0, none⟩ = some (.int .i64 x2) from fun w' hb => ⟨((HF.out.keep HB.out).keep hb).cell hz2, rd_get (R2.out.keep hb) 0 (by simp)⟩)
          have ej2 : (k : Int) - 1 = (j : Int) := by omega
          have ew : IntKind.i64.wrap (j : Int) = (j : Int) := by rw [IntWalk.i64_in _ (by omega)]
          clear hris hR2 hzv2 hz2 hxy2 hxy hzx hpt hxl hj
          go_wp2_with (go_at_call 16; refine (HPA.out _).mono ?_; rintro e wk ⟨rfl, hb⟩; have HBk := Lib.hid (HB.out.trans (hb.mono HB.out.size)); have hd0 := (HZ.out _ hb).1; have hd1 := (HZ.out _ hb).2; have he0 := (HZ2.out _ hb).1; have he1 := (HZ2.out _ hb).2; clear hb)
          go_quiet (fail)
          rename_i nq
          go_wp2
          go_roundw
          case rel => exact ⟨k + 1, by omega, by go_num, below_drewQ HBk.out _⟩
          case measure => simp [intOf]; omega
        · have hi0 : decide ((0 : Int) < (k : Int)) = false := decide_eq_false (by omega)
          clear hxy hzx hpt hxl
          go_wp2_with (go_at_call 16; refine (HPA.out _).mono ?_; rintro e wk ⟨rfl, hb⟩; have HBk := Lib.hid (HB.out.trans (hb.mono HB.out.size)); have hd0 := (HZ.out _ hb).1; have hd1 := (HZ.out _ hb).2; clear hb)
          go_quiet (fail)
          rename_i nq
          go_wp2
          go_roundw
          case rel => exact ⟨k + 1, by omega, by go_num, below_drewQ HBk.out _⟩
          case measure => simp [intOf]; omega
      · obtain rfl : k = N := by omega
        have B5 := Lib.hid (Below.step B4.out B4.out.size HB.out)
        clear HF HA PF HN HNL hN40 hlt hk
        go_wp2_with fail
        refine (draw_EvenPerfect _ xs1 _ (HS1.out.keep B5.out) hl1).mono ?_
        rintro e w6 ⟨p, rfl, hb⟩
        have B6 := Lib.hid (Below.step B5.out B5.out.size hb)
        clear hb
        have HIE := Lib.hid (fun w' => impl_EvenPerfect p w')
        have HSE := Lib.hid (fun w' => spec_EvenPerfect p w')
        rcases RPerf_kind p with hp | ⟨V, hp, hkd⟩
        · rw [hp] at HIE HSE
          clear hp
          go_wp2_with fail
          refine (HIE.out _).mono ?_
          rintro e w7 ⟨rfl, hb⟩
          have B7 := Lib.hid (Below.step B6.out B6.out.size hb)
          clear hb
          go_wp2_with fail
          refine (HSE.out _).mono ?_
          rintro e w8 ⟨rfl, hb⟩
          have B8 := Lib.hid (Below.step B7.out B7.out.size hb)
          clear hb
          go_wp2_with fail
          refine (draw_ThabitPair _ xs1 _ (HS1.out.keep B8.out) hl1).mono ?_
          rintro e w9 ⟨kt, rfl, hb⟩
          have B9 := Lib.hid (Below.step B8.out B8.out.size hb)
          clear hb
          rcases RTha_partner kt with ht | ⟨ta, tb, ht, htp⟩
          · have HIT := Lib.hid (show ∀ w' : World, Calls Try.prog 27 #[.int .i64 kt] w' fun e w'' => e = .returned (.tuple #[.int .i64 0, .int .i64 0, .bool false]) ∧ Below w'.heap.size w' w'' from fun w' => by have := impl_ThabitPair kt w'; rw [ht] at this; exact this)
            have HST := Lib.hid (show ∀ w' : World, Calls Try.prog 28 #[.int .i64 kt] w' fun e w'' => e = .returned (.tuple #[.int .i64 0, .int .i64 0, .bool false]) ∧ Below w'.heap.size w' w'' from fun w' => by have := spec_ThabitPair kt w'; rw [ht] at this; exact this)
            clear ht
            go_wp2_with fail
            refine (HIT.out _).mono ?_
            rintro e w10 ⟨rfl, hb⟩
            have B10 := Lib.hid (Below.step B9.out B9.out.size hb)
            clear hb
            go_wp2_with fail
            refine (HST.out _).mono ?_
            rintro e w11 ⟨rfl, hb⟩
            have B11 := Lib.hid (Below.step B10.out B10.out.size hb)
            clear hb
            go_wp2_with fail
            refine (draw_SourcesOf _ xs0 _ (HS0.out.keep B11.out) hl0).mono ?_
            rintro e w14 ⟨s, rfl, hb⟩
            have B14 := Lib.hid (Below.step B11.out B11.out.size hb)
            clear hb
            have SF := Lib.hid (src_facts s)
            have HIS := Lib.hid (fun w' => impl_SourcesOf s w')
            have HSS := Lib.hid (fun w' => spec_SourcesOf s w')
            have hsl := LF_SourcesOf_len s
            have HMI := Lib.hid (fun (m : Int) (h : OK_SourcesOf s = true) (h2 : OK_NoSources m = true) (h3 : s ≤ m) => miss_facts h h2 h3)
            obtain ⟨qs, hqs⟩ : ∃ qs, qs = OK_SourcesOf s := ⟨_, rfl⟩
            obtain ⟨l, hl⟩ : ∃ l, l = LF_SourcesOf s := ⟨_, rfl⟩
            rw [← hqs, ← hl] at HIS HSS HMI
            rw [← hl] at SF hsl
            clear hqs hl
            go_wp2_with fail
            refine (HIS.out _).mono ?_
            rintro e w15 ⟨v15, rfl, hr, hb⟩
            have R15 := Lib.hid (hr.mono B14.out.size)
            have B15 := Lib.hid (Below.step B14.out B14.out.size hb)
            clear hr hb
            go_wp2_with fail
            refine (HSS.out _).mono ?_
            rintro e w16 ⟨v16, rfl, hr, hb⟩
            have R16 := Lib.hid (R15.out.keep hb)
            have Q16 := Lib.hid (hr.mono B15.out.size)
            have B16 := Lib.hid (Below.step B15.out B15.out.size hb)
            clear hr hb
            go_wp2_with fail
            refine (draw_NoSources _ xs1 _ (HS1.out.keep B16.out) hl1).mono ?_
            rintro e w17 ⟨m, rfl, hb⟩
            have R17 := Lib.hid (R16.out.keep hb)
            have Q17 := Lib.hid (Q16.out.keep hb)
            have B17 := Lib.hid (Below.step B16.out B16.out.size hb)
            clear hb
            have HIN := Lib.hid (fun w' => impl_NoSources m w')
            have HSN := Lib.hid (fun w' => spec_NoSources m w')
            have hnl := LF_NoSources_len m
            have HMJ := Lib.hid (HMI.out m)
            obtain ⟨qn, hqn⟩ : ∃ qn, qn = OK_NoSources m := ⟨_, rfl⟩
            obtain ⟨nl, hnl2⟩ : ∃ nl, nl = LF_NoSources m := ⟨_, rfl⟩
            rw [← hqn, ← hnl2] at HIN HSN HMJ
            rw [← hnl2] at hnl
            clear hqn hnl2 HMI
            go_wp2_with fail
            refine (HIN.out _).mono ?_
            rintro e w18 ⟨v18, rfl, hr, hb⟩
            have R18 := Lib.hid (R17.out.keep hb)
            have Q18 := Lib.hid (Q17.out.keep hb)
            have N18 := Lib.hid (hr.mono B17.out.size)
            have B18 := Lib.hid (Below.step B17.out B17.out.size hb)
            clear hr hb
            go_wp2_with fail
            refine (HSN.out _).mono ?_
            rintro e w19 ⟨v19, rfl, hr, hb⟩
            have R19 := Lib.hid (R18.out.keep hb)
            have Q19 := Lib.hid (Q18.out.keep hb)
            have N19 := Lib.hid (N18.out.keep hb)
            have M19 := Lib.hid (hr.mono B18.out.size)
            have B19 := Lib.hid (Below.step B18.out B18.out.size hb)
            clear hr hb
            go_wp2_with fail
            refine (qSame_any _ _ l _ R19.out.sl Q19.out.sl hsl).mono ?_
            rintro e w20 ⟨rfl, hb⟩
            have R20 := Lib.hid (R19.out.keep hb)
            have N20 := Lib.hid (N19.out.keep hb)
            have M20 := Lib.hid (M19.out.keep hb)
            have B20 := Lib.hid (Below.step B19.out B19.out.size hb)
            clear hb
            go_wp2_with fail
            refine (qSame_any _ _ nl _ N20.out.sl M20.out.sl hnl).mono ?_
            rintro e w21 ⟨rfl, hb⟩
            have R21 := Lib.hid (R20.out.keep hb)
            have N21 := Lib.hid (N20.out.keep hb)
            have B21 := Lib.hid (Below.step B20.out B20.out.size hb)
            clear hb R15 R16 R17 R18 R19 R20 Q16 Q17 Q18 Q19 N18 N19 N20 M19 M20
            obtain ⟨ax, cx, rfl, has⟩ := rd_form R21.out
            have HAS := Lib.hid has
            obtain ⟨an, cn, rfl, han⟩ := rd_form N21.out
            have HAN := Lib.hid han
            obtain ⟨L, hL⟩ : ∃ L, L = l.length := ⟨_, rfl⟩
            obtain ⟨M, hM⟩ : ∃ M, M = nl.length := ⟨_, rfl⟩
            rw [← hL] at R21 HAS hsl ⊢
            rw [← hM] at N21 HAN hnl ⊢
            have HL := Lib.hid hL
            have HM := Lib.hid hM
            clear has han hL hM HIS HSS HIN HSN
            go_wp2
            go_loopw [241] (fun i wr => ∃ k : Nat, k ≤ L ∧ i = .int .i64 (k : Int) ∧ Below w21.heap.size w21 wr) (fun i _ => L - (intOf i).toNat)
            case atStart => exact ⟨0, Nat.zero_le _, rfl, Below.refl _ _⟩
            case round =>
              obtain ⟨k, hk, rfl, hb⟩ := hrel
              have HB2 := Lib.hid hb
              clear hb
              by_cases hlt : k < L
              · rcases HAS.out with hx | ⟨gs, rfl⟩
                · exact absurd hx (by omega)
                have HCS := Lib.hid (show ∀ (w' : World), Below w21.heap.size w21 w' → ∀ j, j < L → w'.cell? ⟨gs, j, none⟩ = some (.int .i64 (l.getD j 0)) from fun w' hb j hj => by
                  have := rd_get (R21.out.keep hb) j (by rw [← HL.out]; exact hj)
                  rwa [Nat.zero_add] at this)
                have hca := HCS.out _ HB2.out k hlt
                have HPS := Lib.hid (fun w' => impl_ProperSum (l.getD k 0) w')
                rw [SF.out.row k (by rw [← HL.out]; exact hlt)] at HPS
                have hss : (s != s) = false := bne_no rfl
                by_cases h0 : 0 < k
                · have hi0 : (0 : Int) < (k : Int) := by omega
                  obtain ⟨j, hj⟩ : ∃ j, k = j + 1 := ⟨k - 1, by omega⟩
                  have hris := SF.out.rise j (by rw [← HL.out]; omega)
                  rw [← hj] at hris
                  have HCJ := Lib.hid (fun w' hb => HCS.out w' hb j (by omega))
                  obtain ⟨x, hx⟩ : ∃ x, x = l.getD k 0 := ⟨_, rfl⟩
                  obtain ⟨x2, hx2⟩ : ∃ x2, x2 = l.getD j 0 := ⟨_, rfl⟩
                  rw [← hx] at hca HPS hris
                  rw [← hx2] at HCJ hris
                  have hris2 : ¬ x ≤ x2 := by omega
                  have ej2 : (k : Int) - 1 = (j : Int) := by omega
                  have hjL : j < L := by omega
                  clear hris hx hx2 hj
                  go_wp2_with (go_at_call 15; refine (HPS.out _).mono ?_; rintro e wk ⟨rfl, hb⟩; have HBk := Lib.hid (HB2.out.trans (hb.mono HB2.out.size)); have hcj := HCJ.out _ HBk.out; clear hb)
                  go_roundw
                  case rel => exact ⟨k + 1, by omega, by go_num, HBk.out⟩
                  case measure => simp [intOf]; omega
                · have hi0 : ¬ (0 : Int) < (k : Int) := by omega
                  obtain ⟨x, hx⟩ : ∃ x, x = l.getD k 0 := ⟨_, rfl⟩
                  rw [← hx] at hca HPS
                  clear hx
                  go_wp2_with (go_at_call 15; refine (HPS.out _).mono ?_; rintro e wk ⟨rfl, hb⟩; have HBk := Lib.hid (HB2.out.trans (hb.mono HB2.out.size)); clear hb)
                  go_roundw
                  case rel => exact ⟨k + 1, by omega, by go_num, HBk.out⟩
                  case measure => simp [intOf]; omega
              · obtain rfl : k = L := by omega
                have B22 := Lib.hid (Below.step B21.out B21.out.size HB2.out)
                cases qn
                · go_wp2
                  go_ret
                  exact ⟨rfl, B22.out⟩
                cases qs
                · go_wp2
                  go_ret
                  exact ⟨rfl, B22.out⟩
                by_cases hsm : s ≤ m
                · have HMK := Lib.hid (HMJ.out rfl rfl hsm)
                  clear HMJ
                  go_wp2
                  go_loopw [44, 283] (fun ms i wr => ∃ (j : Nat) (q : Bool), j ≤ M ∧ ms = .bool q ∧ q = decide (s ∈ nl.take j) ∧ i = .int .i64 (j : Int) ∧ Below w21.heap.size w21 wr) (fun _ i _ => M - (intOf i).toNat)
                  case atStart => exact ⟨0, false, Nat.zero_le _, rfl, by simp, rfl, HB2.out⟩
                  case round =>
                    obtain ⟨j, q, hj, rfl, hq, rfl, hb⟩ := hrel
                    have HB3 := Lib.hid hb
                    have HQ := Lib.hid hq
                    clear hb hq
                    by_cases hlt3 : j < M
                    · rcases HAN.out with hx | ⟨gn, rfl⟩
                      · exact absurd hx (by omega)
                      have hcn := rd_get (N21.out.keep HB3.out) j (by rw [← HM.out]; exact hlt3)
                      rw [Nat.zero_add] at hcn
                      have HT := Lib.hid (mem_take_succ (l := nl) (s := s) (j := j) (by rw [← HM.out]; exact hlt3))
                      rw [← HQ.out] at HT
                      obtain ⟨x, hx⟩ : ∃ x, x = nl.getD j 0 := ⟨_, rfl⟩
                      rw [← hx] at hcn HT
                      clear hx HQ
                      cases q
                      · go_wp2
                        go_roundw
                        case rel => exact ⟨j + 1, _, by omega, rfl, by rw [HT.out]; simp, by go_num, HB3.out⟩
                        case measure => simp [intOf]; omega
                      · go_wp2
                        go_roundw
                        case rel => exact ⟨j + 1, true, by omega, rfl, by rw [HT.out]; simp, by go_num, HB3.out⟩
                        case measure => simp [intOf]; omega
                    · obtain rfl : j = M := by omega
                      have B23 := Lib.hid (Below.step B21.out B21.out.size HB3.out)
                      have hqf : q = decide (s ∈ nl) := by rw [HQ.out, HM.out, List.take_length]
                      by_cases hz : k = 0
                      · subst hz
                        have hq1 : q = true := by rw [hqf]; exact decide_eq_true (HMK.out.2 (by rw [← HL.out]))
                        subst hq1
                        clear hqf HQ
                        go_wp2
                        go_ret
                        exact ⟨by first | rfl | simp, B23.out⟩
                      · have hq1 : q = false := by rw [hqf]; exact decide_eq_false (fun c => hz (by rw [HL.out]; exact HMK.out.1 c))
                        subst hq1
                        have hz2 : ((k : Int) == 0) = false := beq_no (by omega)
                        clear hqf HQ
                        go_wp2
                        go_ret
                        exact ⟨by first | rfl | simp [hz2], B23.out⟩
                · go_wp2
                  go_ret
                  exact ⟨rfl, B22.out⟩
          · have HIT := Lib.hid (show ∀ w' : World, Calls Try.prog 27 #[.int .i64 kt] w' fun e w'' => e = .returned (.tuple #[.int .i64 ta, .int .i64 tb, .bool true]) ∧ Below w'.heap.size w' w'' from fun w' => by have := impl_ThabitPair kt w'; rw [ht] at this; exact this)
            have HST := Lib.hid (show ∀ w' : World, Calls Try.prog 28 #[.int .i64 kt] w' fun e w'' => e = .returned (.tuple #[.int .i64 ta, .int .i64 tb, .bool true]) ∧ Below w'.heap.size w' w'' from fun w' => by have := spec_ThabitPair kt w'; rw [ht] at this; exact this)
            have HTP := Lib.hid (fun w' => impl_PartnerOf ta w')
            rw [htp] at HTP
            clear ht htp
            go_wp2_with fail
            refine (HIT.out _).mono ?_
            rintro e w10 ⟨rfl, hb⟩
            have B10 := Lib.hid (Below.step B9.out B9.out.size hb)
            clear hb
            go_wp2_with fail
            refine (HST.out _).mono ?_
            rintro e w11 ⟨rfl, hb⟩
            have B11 := Lib.hid (Below.step B10.out B10.out.size hb)
            clear hb
            go_wp2_with fail
            refine (HTP.out _).mono ?_
            rintro e w13 ⟨rfl, hb⟩
            have B13 := Lib.hid (Below.step B11.out B11.out.size hb)
            clear hb
            go_wp2_with fail
            refine (draw_SourcesOf _ xs0 _ (HS0.out.keep B13.out) hl0).mono ?_
            rintro e w14 ⟨s, rfl, hb⟩
            have B14 := Lib.hid (Below.step B13.out B13.out.size hb)
            clear hb
            have SF := Lib.hid (src_facts s)
            have HIS := Lib.hid (fun w' => impl_SourcesOf s w')
            have HSS := Lib.hid (fun w' => spec_SourcesOf s w')
            have hsl := LF_SourcesOf_len s
            have HMI := Lib.hid (fun (m : Int) (h : OK_SourcesOf s = true) (h2 : OK_NoSources m = true) (h3 : s ≤ m) => miss_facts h h2 h3)
            obtain ⟨qs, hqs⟩ : ∃ qs, qs = OK_SourcesOf s := ⟨_, rfl⟩
            obtain ⟨l, hl⟩ : ∃ l, l = LF_SourcesOf s := ⟨_, rfl⟩
            rw [← hqs, ← hl] at HIS HSS HMI
            rw [← hl] at SF hsl
            clear hqs hl
            go_wp2_with fail
            refine (HIS.out _).mono ?_
            rintro e w15 ⟨v15, rfl, hr, hb⟩
            have R15 := Lib.hid (hr.mono B14.out.size)
            have B15 := Lib.hid (Below.step B14.out B14.out.size hb)
            clear hr hb
            go_wp2_with fail
            refine (HSS.out _).mono ?_
            rintro e w16 ⟨v16, rfl, hr, hb⟩
            have R16 := Lib.hid (R15.out.keep hb)
            have Q16 := Lib.hid (hr.mono B15.out.size)
            have B16 := Lib.hid (Below.step B15.out B15.out.size hb)
            clear hr hb
            go_wp2_with fail
            refine (draw_NoSources _ xs1 _ (HS1.out.keep B16.out) hl1).mono ?_
            rintro e w17 ⟨m, rfl, hb⟩
            have R17 := Lib.hid (R16.out.keep hb)
            have Q17 := Lib.hid (Q16.out.keep hb)
            have B17 := Lib.hid (Below.step B16.out B16.out.size hb)
            clear hb
            have HIN := Lib.hid (fun w' => impl_NoSources m w')
            have HSN := Lib.hid (fun w' => spec_NoSources m w')
            have hnl := LF_NoSources_len m
            have HMJ := Lib.hid (HMI.out m)
            obtain ⟨qn, hqn⟩ : ∃ qn, qn = OK_NoSources m := ⟨_, rfl⟩
            obtain ⟨nl, hnl2⟩ : ∃ nl, nl = LF_NoSources m := ⟨_, rfl⟩
            rw [← hqn, ← hnl2] at HIN HSN HMJ
            rw [← hnl2] at hnl
            clear hqn hnl2 HMI
            go_wp2_with fail
            refine (HIN.out _).mono ?_
            rintro e w18 ⟨v18, rfl, hr, hb⟩
            have R18 := Lib.hid (R17.out.keep hb)
            have Q18 := Lib.hid (Q17.out.keep hb)
            have N18 := Lib.hid (hr.mono B17.out.size)
            have B18 := Lib.hid (Below.step B17.out B17.out.size hb)
            clear hr hb
            go_wp2_with fail
            refine (HSN.out _).mono ?_
            rintro e w19 ⟨v19, rfl, hr, hb⟩
            have R19 := Lib.hid (R18.out.keep hb)
            have Q19 := Lib.hid (Q18.out.keep hb)
            have N19 := Lib.hid (N18.out.keep hb)
            have M19 := Lib.hid (hr.mono B18.out.size)
            have B19 := Lib.hid (Below.step B18.out B18.out.size hb)
            clear hr hb
            go_wp2_with fail
            refine (qSame_any _ _ l _ R19.out.sl Q19.out.sl hsl).mono ?_
            rintro e w20 ⟨rfl, hb⟩
            have R20 := Lib.hid (R19.out.keep hb)
            have N20 := Lib.hid (N19.out.keep hb)
            have M20 := Lib.hid (M19.out.keep hb)
            have B20 := Lib.hid (Below.step B19.out B19.out.size hb)
            clear hb
            go_wp2_with fail
            refine (qSame_any _ _ nl _ N20.out.sl M20.out.sl hnl).mono ?_
            rintro e w21 ⟨rfl, hb⟩
            have R21 := Lib.hid (R20.out.keep hb)
            have N21 := Lib.hid (N20.out.keep hb)
            have B21 := Lib.hid (Below.step B20.out B20.out.size hb)
            clear hb R15 R16 R17 R18 R19 R20 Q16 Q17 Q18 Q19 N18 N19 N20 M19 M20
            obtain ⟨ax, cx, rfl, has⟩ := rd_form R21.out
            have HAS := Lib.hid has
            obtain ⟨an, cn, rfl, han⟩ := rd_form N21.out
            have HAN := Lib.hid han
            obtain ⟨L, hL⟩ : ∃ L, L = l.length := ⟨_, rfl⟩
            obtain ⟨M, hM⟩ : ∃ M, M = nl.length := ⟨_, rfl⟩
            rw [← hL] at R21 HAS hsl ⊢
            rw [← hM] at N21 HAN hnl ⊢
            have HL := Lib.hid hL
            have HM := Lib.hid hM
            clear has han hL hM HIS HSS HIN HSN
            go_wp2
            go_loopw [241] (fun i wr => ∃ k : Nat, k ≤ L ∧ i = .int .i64 (k : Int) ∧ Below w21.heap.size w21 wr) (fun i _ => L - (intOf i).toNat)
            case atStart => exact ⟨0, Nat.zero_le _, rfl, Below.refl _ _⟩
            case round =>
              obtain ⟨k, hk, rfl, hb⟩ := hrel
              have HB2 := Lib.hid hb
              clear hb
              by_cases hlt : k < L
              · rcases HAS.out with hx | ⟨gs, rfl⟩
                · exact absurd hx (by omega)
                have HCS := Lib.hid (show ∀ (w' : World), Below w21.heap.size w21 w' → ∀ j, j < L → w'.cell? ⟨gs, j, none⟩ = some (.int .i64 (l.getD j 0)) from fun w' hb j hj => by
                  have := rd_get (R21.out.keep hb) j (by rw [← HL.out]; exact hj)
                  rwa [Nat.zero_add] at this)
                have hca := HCS.out _ HB2.out k hlt
                have HPS := Lib.hid (fun w' => impl_ProperSum (l.getD k 0) w')
                rw [SF.out.row k (by rw [← HL.out]; exact hlt)] at HPS
                have hss : (s != s) = false := bne_no rfl
                by_cases h0 : 0 < k
                · have hi0 : (0 : Int) < (k : Int) := by omega
                  obtain ⟨j, hj⟩ : ∃ j, k = j + 1 := ⟨k - 1, by omega⟩
                  have hris := SF.out.rise j (by rw [← HL.out]; omega)
                  rw [← hj] at hris
                  have HCJ := Lib.hid (fun w' hb => HCS.out w' hb j (by omega))
                  obtain ⟨x, hx⟩ : ∃ x, x = l.getD k 0 := ⟨_, rfl⟩
                  obtain ⟨x2, hx2⟩ : ∃ x2, x2 = l.getD j 0 := ⟨_, rfl⟩
                  rw [← hx] at hca HPS hris
                  rw [← hx2] at HCJ hris
                  have hris2 : ¬ x ≤ x2 := by omega
                  have ej2 : (k : Int) - 1 = (j : Int) := by omega
                  have hjL : j < L := by omega
                  clear hris hx hx2 hj
                  go_wp2_with (go_at_call 15; refine (HPS.out _).mono ?_; rintro e wk ⟨rfl, hb⟩; have HBk := Lib.hid (HB2.out.trans (hb.mono HB2.out.size)); have hcj := HCJ.out _ HBk.out; clear hb)
                  go_roundw
                  case rel => exact ⟨k + 1, by omega, by go_num, HBk.out⟩
                  case measure => simp [intOf]; omega
                · have hi0 : ¬ (0 : Int) < (k : Int) := by omega
                  obtain ⟨x, hx⟩ : ∃ x, x = l.getD k 0 := ⟨_, rfl⟩
                  rw [← hx] at hca HPS
                  clear hx
                  go_wp2_with (go_at_call 15; refine (HPS.out _).mono ?_; rintro e wk ⟨rfl, hb⟩; have HBk := Lib.hid (HB2.out.trans (hb.mono HB2.out.size)); clear hb)
                  go_roundw
                  case rel => exact ⟨k + 1, by omega, by go_num, HBk.out⟩
                  case measure => simp [intOf]; omega
              · obtain rfl : k = L := by omega
                have B22 := Lib.hid (Below.step B21.out B21.out.size HB2.out)
                cases qn
                · go_wp2
                  go_ret
                  exact ⟨rfl, B22.out⟩
                cases qs
                · go_wp2
                  go_ret
                  exact ⟨rfl, B22.out⟩
                by_cases hsm : s ≤ m
                · have HMK := Lib.hid (HMJ.out rfl rfl hsm)
                  clear HMJ
                  go_wp2
                  go_loopw [44, 283] (fun ms i wr => ∃ (j : Nat) (q : Bool), j ≤ M ∧ ms = .bool q ∧ q = decide (s ∈ nl.take j) ∧ i = .int .i64 (j : Int) ∧ Below w21.heap.size w21 wr) (fun _ i _ => M - (intOf i).toNat)
                  case atStart => exact ⟨0, false, Nat.zero_le _, rfl, by simp, rfl, HB2.out⟩
                  case round =>
                    obtain ⟨j, q, hj, rfl, hq, rfl, hb⟩ := hrel
                    have HB3 := Lib.hid hb
                    have HQ := Lib.hid hq
                    clear hb hq
                    by_cases hlt3 : j < M
                    · rcases HAN.out with hx | ⟨gn, rfl⟩
                      · exact absurd hx (by omega)
                      have hcn := rd_get (N21.out.keep HB3.out) j (by rw [← HM.out]; exact hlt3)
                      rw [Nat.zero_add] at hcn
                      have HT := Lib.hid (mem_take_succ (l := nl) (s := s) (j := j) (by rw [← HM.out]; exact hlt3))
                      rw [← HQ.out] at HT
                      obtain ⟨x, hx⟩ : ∃ x, x = nl.getD j 0 := ⟨_, rfl⟩
                      rw [← hx] at hcn HT
                      clear hx HQ
                      cases q
                      · go_wp2
                        go_roundw
                        case rel => exact ⟨j + 1, _, by omega, rfl, by rw [HT.out]; simp, by go_num, HB3.out⟩
                        case measure => simp [intOf]; omega
                      · go_wp2
                        go_roundw
                        case rel => exact ⟨j + 1, true, by omega, rfl, by rw [HT.out]; simp, by go_num, HB3.out⟩
                        case measure => simp [intOf]; omega
                    · obtain rfl : j = M := by omega
                      have B23 := Lib.hid (Below.step B21.out B21.out.size HB3.out)
                      have hqf : q = decide (s ∈ nl) := by rw [HQ.out, HM.out, List.take_length]
                      by_cases hz : k = 0
                      · subst hz
                        have hq1 : q = true := by rw [hqf]; exact decide_eq_true (HMK.out.2 (by rw [← HL.out]))
                        subst hq1
                        clear hqf HQ
                        go_wp2
                        go_ret
                        exact ⟨by first | rfl | simp, B23.out⟩
                      · have hq1 : q = false := by rw [hqf]; exact decide_eq_false (fun c => hz (by rw [HL.out]; exact HMK.out.1 c))
                        subst hq1
                        have hz2 : ((k : Int) == 0) = false := beq_no (by omega)
                        clear hqf HQ
                        go_wp2
                        go_ret
                        exact ⟨by first | rfl | simp [hz2], B23.out⟩
                · go_wp2
                  go_ret
                  exact ⟨rfl, B22.out⟩
        · have HKN := Lib.hid (fun w' => impl_KindOfNumber V w')
          rw [hkd] at HKN
          rw [hp] at HIE HSE
          clear hp hkd
          go_wp2_with fail
          refine (HIE.out _).mono ?_
          rintro e w7 ⟨rfl, hb⟩
          have B7 := Lib.hid (Below.step B6.out B6.out.size hb)
          clear hb
          go_wp2_with fail
          refine (HSE.out _).mono ?_
          rintro e w8 ⟨rfl, hb⟩
          have B8 := Lib.hid (Below.step B7.out B7.out.size hb)
          clear hb
          go_wp2_with fail
          refine (draw_ThabitPair _ xs1 _ (HS1.out.keep B8.out) hl1).mono ?_
          rintro e w9 ⟨kt, rfl, hb⟩
          have B9 := Lib.hid (Below.step B8.out B8.out.size hb)
          clear hb
          rcases RTha_partner kt with ht | ⟨ta, tb, ht, htp⟩
          · have HIT := Lib.hid (show ∀ w' : World, Calls Try.prog 27 #[.int .i64 kt] w' fun e w'' => e = .returned (.tuple #[.int .i64 0, .int .i64 0, .bool false]) ∧ Below w'.heap.size w' w'' from fun w' => by have := impl_ThabitPair kt w'; rw [ht] at this; exact this)
            have HST := Lib.hid (show ∀ w' : World, Calls Try.prog 28 #[.int .i64 kt] w' fun e w'' => e = .returned (.tuple #[.int .i64 0, .int .i64 0, .bool false]) ∧ Below w'.heap.size w' w'' from fun w' => by have := spec_ThabitPair kt w'; rw [ht] at this; exact this)
            clear ht
            go_wp2_with fail
            refine (HIT.out _).mono ?_
            rintro e w10 ⟨rfl, hb⟩
            have B10 := Lib.hid (Below.step B9.out B9.out.size hb)
            clear hb
            go_wp2_with fail
            refine (HST.out _).mono ?_
            rintro e w11 ⟨rfl, hb⟩
            have B11 := Lib.hid (Below.step B10.out B10.out.size hb)
            clear hb
            go_wp2_with fail
            refine (HKN.out _).mono ?_
            rintro e w12 ⟨rfl, hb⟩
            have B12 := Lib.hid (Below.step B11.out B11.out.size hb)
            clear hb
            go_wp2_with fail
            refine (draw_SourcesOf _ xs0 _ (HS0.out.keep B12.out) hl0).mono ?_
            rintro e w14 ⟨s, rfl, hb⟩
            have B14 := Lib.hid (Below.step B12.out B12.out.size hb)
            clear hb
            have SF := Lib.hid (src_facts s)
            have HIS := Lib.hid (fun w' => impl_SourcesOf s w')
            have HSS := Lib.hid (fun w' => spec_SourcesOf s w')
            have hsl := LF_SourcesOf_len s
            have HMI := Lib.hid (fun (m : Int) (h : OK_SourcesOf s = true) (h2 : OK_NoSources m = true) (h3 : s ≤ m) => miss_facts h h2 h3)
            obtain ⟨qs, hqs⟩ : ∃ qs, qs = OK_SourcesOf s := ⟨_, rfl⟩
            obtain ⟨l, hl⟩ : ∃ l, l = LF_SourcesOf s := ⟨_, rfl⟩
            rw [← hqs, ← hl] at HIS HSS HMI
            rw [← hl] at SF hsl
            clear hqs hl
            go_wp2_with fail
            refine (HIS.out _).mono ?_
            rintro e w15 ⟨v15, rfl, hr, hb⟩
            have R15 := Lib.hid (hr.mono B14.out.size)
            have B15 := Lib.hid (Below.step B14.out B14.out.size hb)
            clear hr hb
            go_wp2_with fail
            refine (HSS.out _).mono ?_
            rintro e w16 ⟨v16, rfl, hr, hb⟩
            have R16 := Lib.hid (R15.out.keep hb)
            have Q16 := Lib.hid (hr.mono B15.out.size)
            have B16 := Lib.hid (Below.step B15.out B15.out.size hb)
            clear hr hb
            go_wp2_with fail
            refine (draw_NoSources _ xs1 _ (HS1.out.keep B16.out) hl1).mono ?_
            rintro e w17 ⟨m, rfl, hb⟩
            have R17 := Lib.hid (R16.out.keep hb)
            have Q17 := Lib.hid (Q16.out.keep hb)
            have B17 := Lib.hid (Below.step B16.out B16.out.size hb)
            clear hb
            have HIN := Lib.hid (fun w' => impl_NoSources m w')
            have HSN := Lib.hid (fun w' => spec_NoSources m w')
            have hnl := LF_NoSources_len m
            have HMJ := Lib.hid (HMI.out m)
            obtain ⟨qn, hqn⟩ : ∃ qn, qn = OK_NoSources m := ⟨_, rfl⟩
            obtain ⟨nl, hnl2⟩ : ∃ nl, nl = LF_NoSources m := ⟨_, rfl⟩
            rw [← hqn, ← hnl2] at HIN HSN HMJ
            rw [← hnl2] at hnl
            clear hqn hnl2 HMI
            go_wp2_with fail
            refine (HIN.out _).mono ?_
            rintro e w18 ⟨v18, rfl, hr, hb⟩
            have R18 := Lib.hid (R17.out.keep hb)
            have Q18 := Lib.hid (Q17.out.keep hb)
            have N18 := Lib.hid (hr.mono B17.out.size)
            have B18 := Lib.hid (Below.step B17.out B17.out.size hb)
            clear hr hb
            go_wp2_with fail
            refine (HSN.out _).mono ?_
            rintro e w19 ⟨v19, rfl, hr, hb⟩
            have R19 := Lib.hid (R18.out.keep hb)
            have Q19 := Lib.hid (Q18.out.keep hb)
            have N19 := Lib.hid (N18.out.keep hb)
            have M19 := Lib.hid (hr.mono B18.out.size)
            have B19 := Lib.hid (Below.step B18.out B18.out.size hb)
            clear hr hb
            go_wp2_with fail
            refine (qSame_any _ _ l _ R19.out.sl Q19.out.sl hsl).mono ?_
            rintro e w20 ⟨rfl, hb⟩
            have R20 := Lib.hid (R19.out.keep hb)
            have N20 := Lib.hid (N19.out.keep hb)
            have M20 := Lib.hid (M19.out.keep hb)
            have B20 := Lib.hid (Below.step B19.out B19.out.size hb)
            clear hb
            go_wp2_with fail
            refine (qSame_any _ _ nl _ N20.out.sl M20.out.sl hnl).mono ?_
            rintro e w21 ⟨rfl, hb⟩
            have R21 := Lib.hid (R20.out.keep hb)
            have N21 := Lib.hid (N20.out.keep hb)
            have B21 := Lib.hid (Below.step B20.out B20.out.size hb)
            clear hb R15 R16 R17 R18 R19 R20 Q16 Q17 Q18 Q19 N18 N19 N20 M19 M20
            obtain ⟨ax, cx, rfl, has⟩ := rd_form R21.out
            have HAS := Lib.hid has
            obtain ⟨an, cn, rfl, han⟩ := rd_form N21.out
            have HAN := Lib.hid han
            obtain ⟨L, hL⟩ : ∃ L, L = l.length := ⟨_, rfl⟩
            obtain ⟨M, hM⟩ : ∃ M, M = nl.length := ⟨_, rfl⟩
            rw [← hL] at R21 HAS hsl ⊢
            rw [← hM] at N21 HAN hnl ⊢
            have HL := Lib.hid hL
            have HM := Lib.hid hM
            clear has han hL hM HIS HSS HIN HSN
            go_wp2
            go_loopw [241] (fun i wr => ∃ k : Nat, k ≤ L ∧ i = .int .i64 (k : Int) ∧ Below w21.heap.size w21 wr) (fun i _ => L - (intOf i).toNat)
            case atStart => exact ⟨0, Nat.zero_le _, rfl, Below.refl _ _⟩
            case round =>
              obtain ⟨k, hk, rfl, hb⟩ := hrel
              have HB2 := Lib.hid hb
              clear hb
              by_cases hlt : k < L
              · rcases HAS.out with hx | ⟨gs, rfl⟩
                · exact absurd hx (by omega)
                have HCS := Lib.hid (show ∀ (w' : World), Below w21.heap.size w21 w' → ∀ j, j < L → w'.cell? ⟨gs, j, none⟩ = some (.int .i64 (l.getD j 0)) from fun w' hb j hj => by
                  have := rd_get (R21.out.keep hb) j (by rw [← HL.out]; exact hj)
                  rwa [Nat.zero_add] at this)
                have hca := HCS.out _ HB2.out k hlt
                have HPS := Lib.hid (fun w' => impl_ProperSum (l.getD k 0) w')
                rw [SF.out.row k (by rw [← HL.out]; exact hlt)] at HPS
                have hss : (s != s) = false := bne_no rfl
                by_cases h0 : 0 < k
                · have hi0 : (0 : Int) < (k : Int) := by omega
                  obtain ⟨j, hj⟩ : ∃ j, k = j + 1 := ⟨k - 1, by omega⟩
                  have hris := SF.out.rise j (by rw [← HL.out]; omega)
                  rw [← hj] at hris
                  have HCJ := Lib.hid (fun w' hb => HCS.out w' hb j (by omega))
                  obtain ⟨x, hx⟩ : ∃ x, x = l.getD k 0 := ⟨_, rfl⟩
                  obtain ⟨x2, hx2⟩ : ∃ x2, x2 = l.getD j 0 := ⟨_, rfl⟩
                  rw [← hx] at hca HPS hris
                  rw [← hx2] at HCJ hris
                  have hris2 : ¬ x ≤ x2 := by omega
                  have ej2 : (k : Int) - 1 = (j : Int) := by omega
                  have hjL : j < L := by omega
                  clear hris hx hx2 hj
                  go_wp2_with (go_at_call 15; refine (HPS.out _).mono ?_; rintro e wk ⟨rfl, hb⟩; have HBk := Lib.hid (HB2.out.trans (hb.mono HB2.out.size)); have hcj := HCJ.out _ HBk.out; clear hb)
                  go_roundw
                  case rel => exact ⟨k + 1, by omega, by go_num, HBk.out⟩
                  case measure => simp [intOf]; omega
                · have hi0 : ¬ (0 : Int) < (k : Int) := by omega
                  obtain ⟨x, hx⟩ : ∃ x, x = l.getD k 0 := ⟨_, rfl⟩
                  rw [← hx] at hca HPS
                  clear hx
                  go_wp2_with (go_at_call 15; refine (HPS.out _).mono ?_; rintro e wk ⟨rfl, hb⟩; have HBk := Lib.hid (HB2.out.trans (hb.mono HB2.out.size)); clear hb)
                  go_roundw
                  case rel => exact ⟨k + 1, by omega, by go_num, HBk.out⟩
                  case measure => simp [intOf]; omega
              · obtain rfl : k = L := by omega
                have B22 := Lib.hid (Below.step B21.out B21.out.size HB2.out)
                cases qn
                · go_wp2
                  go_ret
                  exact ⟨rfl, B22.out⟩
                cases qs
                · go_wp2
                  go_ret
                  exact ⟨rfl, B22.out⟩
                by_cases hsm : s ≤ m
                · have HMK := Lib.hid (HMJ.out rfl rfl hsm)
                  clear HMJ
                  go_wp2
                  go_loopw [44, 283] (fun ms i wr => ∃ (j : Nat) (q : Bool), j ≤ M ∧ ms = .bool q ∧ q = decide (s ∈ nl.take j) ∧ i = .int .i64 (j : Int) ∧ Below w21.heap.size w21 wr) (fun _ i _ => M - (intOf i).toNat)
                  case atStart => exact ⟨0, false, Nat.zero_le _, rfl, by simp, rfl, HB2.out⟩
                  case round =>
                    obtain ⟨j, q, hj, rfl, hq, rfl, hb⟩ := hrel
                    have HB3 := Lib.hid hb
                    have HQ := Lib.hid hq
                    clear hb hq
                    by_cases hlt3 : j < M
                    · rcases HAN.out with hx | ⟨gn, rfl⟩
                      · exact absurd hx (by omega)
                      have hcn := rd_get (N21.out.keep HB3.out) j (by rw [← HM.out]; exact hlt3)
                      rw [Nat.zero_add] at hcn
                      have HT := Lib.hid (mem_take_succ (l := nl) (s := s) (j := j) (by rw [← HM.out]; exact hlt3))
                      rw [← HQ.out] at HT
                      obtain ⟨x, hx⟩ : ∃ x, x = nl.getD j 0 := ⟨_, rfl⟩
                      rw [← hx] at hcn HT
                      clear hx HQ
                      cases q
                      · go_wp2
                        go_roundw
                        case rel => exact ⟨j + 1, _, by omega, rfl, by rw [HT.out]; simp, by go_num, HB3.out⟩
                        case measure => simp [intOf]; omega
                      · go_wp2
                        go_roundw
                        case rel => exact ⟨j + 1, true, by omega, rfl, by rw [HT.out]; simp, by go_num, HB3.out⟩
                        case measure => simp [intOf]; omega
                    · obtain rfl : j = M := by omega
                      have B23 := Lib.hid (Below.step B21.out B21.out.size HB3.out)
                      have hqf : q = decide (s ∈ nl) := by rw [HQ.out, HM.out, List.take_length]
                      by_cases hz : k = 0
                      · subst hz
                        have hq1 : q = true := by rw [hqf]; exact decide_eq_true (HMK.out.2 (by rw [← HL.out]))
                        subst hq1
                        clear hqf HQ
                        go_wp2
                        go_ret
                        exact ⟨by first | rfl | simp, B23.out⟩
                      · have hq1 : q = false := by rw [hqf]; exact decide_eq_false (fun c => hz (by rw [HL.out]; exact HMK.out.1 c))
                        subst hq1
                        have hz2 : ((k : Int) == 0) = false := beq_no (by omega)
                        clear hqf HQ
                        go_wp2
                        go_ret
                        exact ⟨by first | rfl | simp [hz2], B23.out⟩
                · go_wp2
                  go_ret
                  exact ⟨rfl, B22.out⟩
          · have HIT := Lib.hid (show ∀ w' : World, Calls Try.prog 27 #[.int .i64 kt] w' fun e w'' => e = .returned (.tuple #[.int .i64 ta, .int .i64 tb, .bool true]) ∧ Below w'.heap.size w' w'' from fun w' => by have := impl_ThabitPair kt w'; rw [ht] at this; exact this)
            have HST := Lib.hid (show ∀ w' : World, Calls Try.prog 28 #[.int .i64 kt] w' fun e w'' => e = .returned (.tuple #[.int .i64 ta, .int .i64 tb, .bool true]) ∧ Below w'.heap.size w' w'' from fun w' => by have := spec_ThabitPair kt w'; rw [ht] at this; exact this)
            have HTP := Lib.hid (fun w' => impl_PartnerOf ta w')
            rw [htp] at HTP
            clear ht htp
            go_wp2_with fail
            refine (HIT.out _).mono ?_
            rintro e w10 ⟨rfl, hb⟩
            have B10 := Lib.hid (Below.step B9.out B9.out.size hb)
            clear hb
            go_wp2_with fail
            refine (HST.out _).mono ?_
            rintro e w11 ⟨rfl, hb⟩
            have B11 := Lib.hid (Below.step B10.out B10.out.size hb)
            clear hb
            go_wp2_with fail
            refine (HKN.out _).mono ?_
            rintro e w12 ⟨rfl, hb⟩
            have B12 := Lib.hid (Below.step B11.out B11.out.size hb)
            clear hb
            go_wp2_with fail
            refine (HTP.out _).mono ?_
            rintro e w13 ⟨rfl, hb⟩
            have B13 := Lib.hid (Below.step B12.out B12.out.size hb)
            clear hb
            go_wp2_with fail
            refine (draw_SourcesOf _ xs0 _ (HS0.out.keep B13.out) hl0).mono ?_
            rintro e w14 ⟨s, rfl, hb⟩
            have B14 := Lib.hid (Below.step B13.out B13.out.size hb)
            clear hb
            have SF := Lib.hid (src_facts s)
            have HIS := Lib.hid (fun w' => impl_SourcesOf s w')
            have HSS := Lib.hid (fun w' => spec_SourcesOf s w')
            have hsl := LF_SourcesOf_len s
            have HMI := Lib.hid (fun (m : Int) (h : OK_SourcesOf s = true) (h2 : OK_NoSources m = true) (h3 : s ≤ m) => miss_facts h h2 h3)
            obtain ⟨qs, hqs⟩ : ∃ qs, qs = OK_SourcesOf s := ⟨_, rfl⟩
            obtain ⟨l, hl⟩ : ∃ l, l = LF_SourcesOf s := ⟨_, rfl⟩
            rw [← hqs, ← hl] at HIS HSS HMI
            rw [← hl] at SF hsl
            clear hqs hl
            go_wp2_with fail
            refine (HIS.out _).mono ?_
            rintro e w15 ⟨v15, rfl, hr, hb⟩
            have R15 := Lib.hid (hr.mono B14.out.size)
            have B15 := Lib.hid (Below.step B14.out B14.out.size hb)
            clear hr hb
            go_wp2_with fail
            refine (HSS.out _).mono ?_
            rintro e w16 ⟨v16, rfl, hr, hb⟩
            have R16 := Lib.hid (R15.out.keep hb)
            have Q16 := Lib.hid (hr.mono B15.out.size)
            have B16 := Lib.hid (Below.step B15.out B15.out.size hb)
            clear hr hb
            go_wp2_with fail
            refine (draw_NoSources _ xs1 _ (HS1.out.keep B16.out) hl1).mono ?_
            rintro e w17 ⟨m, rfl, hb⟩
            have R17 := Lib.hid (R16.out.keep hb)
            have Q17 := Lib.hid (Q16.out.keep hb)
            have B17 := Lib.hid (Below.step B16.out B16.out.size hb)
            clear hb
            have HIN := Lib.hid (fun w' => impl_NoSources m w')
            have HSN := Lib.hid (fun w' => spec_NoSources m w')
            have hnl := LF_NoSources_len m
            have HMJ := Lib.hid (HMI.out m)
            obtain ⟨qn, hqn⟩ : ∃ qn, qn = OK_NoSources m := ⟨_, rfl⟩
            obtain ⟨nl, hnl2⟩ : ∃ nl, nl = LF_NoSources m := ⟨_, rfl⟩
            rw [← hqn, ← hnl2] at HIN HSN HMJ
            rw [← hnl2] at hnl
            clear hqn hnl2 HMI
            go_wp2_with fail
            refine (HIN.out _).mono ?_
            rintro e w18 ⟨v18, rfl, hr, hb⟩
            have R18 := Lib.hid (R17.out.keep hb)
            have Q18 := Lib.hid (Q17.out.keep hb)
            have N18 := Lib.hid (hr.mono B17.out.size)
            have B18 := Lib.hid (Below.step B17.out B17.out.size hb)
            clear hr hb
            go_wp2_with fail
            refine (HSN.out _).mono ?_
            rintro e w19 ⟨v19, rfl, hr, hb⟩
            have R19 := Lib.hid (R18.out.keep hb)
            have Q19 := Lib.hid (Q18.out.keep hb)
            have N19 := Lib.hid (N18.out.keep hb)
            have M19 := Lib.hid (hr.mono B18.out.size)
            have B19 := Lib.hid (Below.step B18.out B18.out.size hb)
            clear hr hb
            go_wp2_with fail
            refine (qSame_any _ _ l _ R19.out.sl Q19.out.sl hsl).mono ?_
            rintro e w20 ⟨rfl, hb⟩
            have R20 := Lib.hid (R19.out.keep hb)
            have N20 := Lib.hid (N19.out.keep hb)
            have M20 := Lib.hid (M19.out.keep hb)
            have B20 := Lib.hid (Below.step B19.out B19.out.size hb)
            clear hb
            go_wp2_with fail
            refine (qSame_any _ _ nl _ N20.out.sl M20.out.sl hnl).mono ?_
            rintro e w21 ⟨rfl, hb⟩
            have R21 := Lib.hid (R20.out.keep hb)
            have N21 := Lib.hid (N20.out.keep hb)
            have B21 := Lib.hid (Below.step B20.out B20.out.size hb)
            clear hb R15 R16 R17 R18 R19 R20 Q16 Q17 Q18 Q19 N18 N19 N20 M19 M20
            obtain ⟨ax, cx, rfl, has⟩ := rd_form R21.out
            have HAS := Lib.hid has
            obtain ⟨an, cn, rfl, han⟩ := rd_form N21.out
            have HAN := Lib.hid han
            obtain ⟨L, hL⟩ : ∃ L, L = l.length := ⟨_, rfl⟩
            obtain ⟨M, hM⟩ : ∃ M, M = nl.length := ⟨_, rfl⟩
            rw [← hL] at R21 HAS hsl ⊢
            rw [← hM] at N21 HAN hnl ⊢
            have HL := Lib.hid hL
            have HM := Lib.hid hM
            clear has han hL hM HIS HSS HIN HSN
            go_wp2
            go_loopw [241] (fun i wr => ∃ k : Nat, k ≤ L ∧ i = .int .i64 (k : Int) ∧ Below w21.heap.size w21 wr) (fun i _ => L - (intOf i).toNat)
            case atStart => exact ⟨0, Nat.zero_le _, rfl, Below.refl _ _⟩
            case round =>
              obtain ⟨k, hk, rfl, hb⟩ := hrel
              have HB2 := Lib.hid hb
              clear hb
              by_cases hlt : k < L
              · rcases HAS.out with hx | ⟨gs, rfl⟩
                · exact absurd hx (by omega)
                have HCS := Lib.hid (show ∀ (w' : World), Below w21.heap.size w21 w' → ∀ j, j < L → w'.cell? ⟨gs, j, none⟩ = some (.int .i64 (l.getD j 0)) from fun w' hb j hj => by
                  have := rd_get (R21.out.keep hb) j (by rw [← HL.out]; exact hj)
                  rwa [Nat.zero_add] at this)
                have hca := HCS.out _ HB2.out k hlt
                have HPS := Lib.hid (fun w' => impl_ProperSum (l.getD k 0) w')
                rw [SF.out.row k (by rw [← HL.out]; exact hlt)] at HPS
                have hss : (s != s) = false := bne_no rfl
                by_cases h0 : 0 < k
                · have hi0 : (0 : Int) < (k : Int) := by omega
                  obtain ⟨j, hj⟩ : ∃ j, k = j + 1 := ⟨k - 1, by omega⟩
                  have hris := SF.out.rise j (by rw [← HL.out]; omega)
                  rw [← hj] at hris
                  have HCJ := Lib.hid (fun w' hb => HCS.out w' hb j (by omega))
                  obtain ⟨x, hx⟩ : ∃ x, x = l.getD k 0 := ⟨_, rfl⟩
                  obtain ⟨x2, hx2⟩ : ∃ x2, x2 = l.getD j 0 := ⟨_, rfl⟩
                  rw [← hx] at hca HPS hris
                  rw [← hx2] at HCJ hris
                  have hris2 : ¬ x ≤ x2 := by omega
                  have ej2 : (k : Int) - 1 = (j : Int) := by omega
                  have hjL : j < L := by omega
                  clear hris hx hx2 hj
                  go_wp2_with (go_at_call 15; refine (HPS.out _).mono ?_; rintro e wk ⟨rfl, hb⟩; have HBk := Lib.hid (HB2.out.trans (hb.mono HB2.out.size)); have hcj := HCJ.out _ HBk.out; clear hb)
                  go_roundw
                  case rel => exact ⟨k + 1, by omega, by go_num, HBk.out⟩
                  case measure => simp [intOf]; omega
                · have hi0 : ¬ (0 : Int) < (k : Int) := by omega
                  obtain ⟨x, hx⟩ : ∃ x, x = l.getD k 0 := ⟨_, rfl⟩
                  rw [← hx] at hca HPS
                  clear hx
                  go_wp2_with (go_at_call 15; refine (HPS.out _).mono ?_; rintro e wk ⟨rfl, hb⟩; have HBk := Lib.hid (HB2.out.trans (hb.mono HB2.out.size)); clear hb)
                  go_roundw
                  case rel => exact ⟨k + 1, by omega, by go_num, HBk.out⟩
                  case measure => simp [intOf]; omega
              · obtain rfl : k = L := by omega
                have B22 := Lib.hid (Below.step B21.out B21.out.size HB2.out)
                cases qn
                · go_wp2
                  go_ret
                  exact ⟨rfl, B22.out⟩
                cases qs
                · go_wp2
                  go_ret
                  exact ⟨rfl, B22.out⟩
                by_cases hsm : s ≤ m
                · have HMK := Lib.hid (HMJ.out rfl rfl hsm)
                  clear HMJ
                  go_wp2
                  go_loopw [44, 283] (fun ms i wr => ∃ (j : Nat) (q : Bool), j ≤ M ∧ ms = .bool q ∧ q = decide (s ∈ nl.take j) ∧ i = .int .i64 (j : Int) ∧ Below w21.heap.size w21 wr) (fun _ i _ => M - (intOf i).toNat)
                  case atStart => exact ⟨0, false, Nat.zero_le _, rfl, by simp, rfl, HB2.out⟩
                  case round =>
                    obtain ⟨j, q, hj, rfl, hq, rfl, hb⟩ := hrel
                    have HB3 := Lib.hid hb
                    have HQ := Lib.hid hq
                    clear hb hq
                    by_cases hlt3 : j < M
                    · rcases HAN.out with hx | ⟨gn, rfl⟩
                      · exact absurd hx (by omega)
                      have hcn := rd_get (N21.out.keep HB3.out) j (by rw [← HM.out]; exact hlt3)
                      rw [Nat.zero_add] at hcn
                      have HT := Lib.hid (mem_take_succ (l := nl) (s := s) (j := j) (by rw [← HM.out]; exact hlt3))
                      rw [← HQ.out] at HT
                      obtain ⟨x, hx⟩ : ∃ x, x = nl.getD j 0 := ⟨_, rfl⟩
                      rw [← hx] at hcn HT
                      clear hx HQ
                      cases q
                      · go_wp2
                        go_roundw
                        case rel => exact ⟨j + 1, _, by omega, rfl, by rw [HT.out]; simp, by go_num, HB3.out⟩
                        case measure => simp [intOf]; omega
                      · go_wp2
                        go_roundw
                        case rel => exact ⟨j + 1, true, by omega, rfl, by rw [HT.out]; simp, by go_num, HB3.out⟩
                        case measure => simp [intOf]; omega
                    · obtain rfl : j = M := by omega
                      have B23 := Lib.hid (Below.step B21.out B21.out.size HB3.out)
                      have hqf : q = decide (s ∈ nl) := by rw [HQ.out, HM.out, List.take_length]
                      by_cases hz : k = 0
                      · subst hz
                        have hq1 : q = true := by rw [hqf]; exact decide_eq_true (HMK.out.2 (by rw [← HL.out]))
                        subst hq1
                        clear hqf HQ
                        go_wp2
                        go_ret
                        exact ⟨by first | rfl | simp, B23.out⟩
                      · have hq1 : q = false := by rw [hqf]; exact decide_eq_false (fun c => hz (by rw [HL.out]; exact HMK.out.1 c))
                        subst hq1
                        have hz2 : ((k : Int) == 0) = false := beq_no (by omega)
                        clear hqf HQ
                        go_wp2
                        go_ret
                        exact ⟨by first | rfl | simp [hz2], B23.out⟩
                · go_wp2
                  go_ret
                  exact ⟨rfl, B22.out⟩

end Go.Proofs.Ytlpmfapjgmhbhaa
