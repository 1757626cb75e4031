/-
  The law of self telling lists, walked.
-/
import Derived.Test.Ytmdjmbmkgboeaaa03
namespace Go.Proofs.Ytmdjmbmkgboeaaa
open Go.RowKit
set_option linter.unusedVariables false
set_option linter.unusedSimpArgs false
set_option maxRecDepth 100000

theorem Rd.lenS {w : World} {B n : Nat} {v : Value} {xs : List Int} (h : Rd w B v xs) (hn : xs.length = n) : ∃ a cap, v = .slice a n cap := by
  subst hn; exact h.sl.len

set_option maxHeartbeats 4000000 in
theorem law_SelfTellingLists {W : World} (v0 : Value) (xs0 : List Int) (hs0 : Sb W v0 xs0) (v1 : Value) (xs1 : List Int) (hs1 : Sb W v1 xs1) :
    Calls Try.prog 4 #[v0, v1] W fun e w' => e = .returned (.bool true) ∧ Below W.heap.size W w' := by
  have HS0 := Lib.hid hs0
  have HS1 := Lib.hid hs1
  obtain ⟨a0, c0, rfl⟩ := hs0.len
  obtain ⟨a1, c1, rfl⟩ := hs1.len
  clear hs0 hs1
  by_cases hbig : 1048576 < xs0.length ∨ 1048576 < xs0.length + xs1.length
  · have HBG := Lib.hid (big_any a0 a1 xs0.length xs1.length c0 c1 W)
    rw [decide_eq_true hbig] at HBG
    obtain ⟨n0, hn0⟩ : ∃ n0, n0 = xs0.length := ⟨_, rfl⟩
    obtain ⟨n1, hn1⟩ : ∃ n1, n1 = xs1.length := ⟨_, rfl⟩
    rw [← hn0, ← hn1] at HBG ⊢
    clear hbig hn0 hn1 HS0 HS1
    go_enter Try.func4, Try.ntmps4
    go_wp2_with (go_at_call 7; refine HBG.out.mono ?_; rintro e w1 ⟨rfl, rfl⟩)
    go_ret
    exact ⟨rfl, Below.refl _ _⟩
  · have HBG := Lib.hid (big_any a0 a1 xs0.length xs1.length c0 c1 W)
    rw [decide_eq_false hbig] at HBG
    have hl0 : xs0.length ≤ 1048576 := by omega
    have hl1 : xs1.length ≤ 1048576 := by omega
    clear hbig
    go_enter Try.func4, Try.ntmps4
    go_wp2_with (go_at_call 7; refine HBG.out.mono ?_; rintro e w1 ⟨rfl, rfl⟩)
    refine (draw_SelfTelling _ xs0 _ HS0.out hl0).mono ?_
    rintro e w1 ⟨n, rfl, hb⟩
    have B1 := Lib.hid hb
    clear hb HBG
    have HIS := Lib.hid (fun w' => impl_SelfTelling n w')
    have HSS := Lib.hid (fun w' => spec_SelfTelling n w')
    by_cases hsel : SelR n
    · have HSF := Lib.hid (sel_facts n)
      have hok : OK_SelfTelling n = true := decide_eq_true hsel
      obtain ⟨M, rfl⟩ : ∃ M : Nat, n = (M : Int) := ⟨n.toNat, by have := hsel.1; omega⟩
      have hM1 : 1 ≤ M := by have := hsel.1; omega
      have hM2 : M ≤ 10 := by have := hsel.2; omega
      obtain ⟨ls, hls⟩ : ∃ ls, LF_SelfTelling (M : Int) = ls := ⟨_, rfl⟩
      rw [hok, hls] at HIS HSS HSF
      have HOne := Lib.hid (HSF.out.one rfl)
      have HRow := Lib.hid (HSF.out.row)
      have HZ := Lib.hid (show ∀ i, (lsZ ls i).length ≤ 2000000 from fun i => by
        by_cases hi : i < ls.length
        · obtain ⟨N', _, _, h2, h3, _⟩ := HRow.out i hi
          omega
        · unfold lsZ
          rw [List.getD_eq_getElem?_getD, List.getElem?_eq_none (by omega)]
          simp)
      have HFew := Lib.hid HSF.out.few
      have HRise := Lib.hid HSF.out.rise
      clear hok hls hsel HSF
      
      go_wp2_with fail
      refine (HIS.out _).mono ?_
      rintro e w2 ⟨u, vs, rfl, hr, hb⟩
      have L2 := Lib.hid (hr.mono B1.out.size)
      have B2 := Lib.hid (Below.step B1.out B1.out.size hb)
      clear hr hb
      go_wp2_with fail
      refine (HSS.out _).mono ?_
      rintro e w3 ⟨u2, vs2, rfl, hr, hb⟩
      have L3 := Lib.hid (L2.out.keep hb)
      have M3 := Lib.hid (hr.mono B2.out.size)
      have B3 := Lib.hid (Below.step B2.out B2.out.size hb)
      clear hr hb
      go_wp2_with fail
      refine (qSameRows_any _ _ vs vs2 (lsZ ls) _ _ _ L3.out.f M3.out.f (by rw [L3.out.len, M3.out.len]) (by rw [L3.out.len]; have := HFew.out; omega) (fun i => by exact HZ.out i)).mono ?_
      rintro e w4 ⟨rfl, hb⟩
      have HF0 := Lib.hid ((L3.out.keep hb).f)
      have HNV := Lib.hid L3.out.len
      have B4 := Lib.hid (Below.step B3.out B3.out.size hb)
      clear hb L2 L3 M3 B1 B2 B3 HIS HSS
      obtain ⟨a, cap, rfl, ha⟩ := HF0.out.shape
      
      obtain ⟨N, hN⟩ : ∃ N, vs.length = N := ⟨_, rfl⟩
      have HN := Lib.hid hN
      have HNL := Lib.hid (hN.symm.trans HNV.out)
      have hN2 : N ≤ 2 := by rw [HNL.out]; exact HFew.out
      have HA := Lib.hid ha
      rw [hN] at HF0 ⊢
      have HF := HF0
      clear hN ha HNV HF0
      go_wp2
      go_loopw [52] (fun i wr => ∃ k : Nat, k ≤ N ∧ i = .int .i64 (k : Int) ∧ Below w4.heap.size w4 wr) (fun i _ => N - (intOf i).toNat)
      case atStart => exact ⟨0, Nat.zero_le _, rfl, Below.refl _ _⟩
      case round =>
        obtain ⟨k, hk, rfl, hb⟩ := hrel
        have HB := Lib.hid hb
        clear hb
        by_cases hlt : k < N
        · have hltI : (k : Int) < (N : Int) := by omega
          obtain ⟨N', hn', h1, h2, h3, hval, hok, hlf, hsum, h10⟩ := HRow.out k (by rw [← HNL.out]; exact hlt)
          have hNM : N' = M := by omega
          subst hNM
          rcases HA.out with hx | ⟨gv, rfl⟩
          · have := HN.out; rw [hx] at this; simp at this; omega
          obtain ⟨zk, hzk⟩ : ∃ x, vs[k]? = some x := ⟨vs[k]'(by rw [HN.out]; exact hlt), by simp⟩
          have hck := (HF.out.keep HB.out).cell hzk
          have hRk := (HF.out.keep HB.out).at' k zk hzk
          obtain ⟨bk, dk, rfl⟩ := hRk.lenS h3
          have HRk := Lib.hid hRk
          have HIs := Lib.hid (impl_IsSelfTelling _ _ _ wr hRk (by omega))
          rw [hval] at HIs
          have HTc := Lib.hid (fun w' (h : Rd w' W.heap.size (.slice bk N' dk) (lsZ ls k)) => impl_TellCounts _ _ _ w' h (by omega))
          rw [hok, hlf] at HTc
          have HSu := Lib.hid (fun w' (h : Sl w' (.slice bk N' dk) (lsZ ls k)) => qSum_any _ _ w' h (by omega) h10)
          rw [hsum] at HSu
          have H3 := Lib.hid h3
          have hwk : IntKind.i64.wrap ((k : Int) + 1) = (k : Int) + 1 := by rw [IntWalk.i64_in _ (by omega)]
          clear hzk hRk hval hok hlf hsum h10 h3 hn'
          by_cases h0 : 0 < k
          · have hi0 : (0 : Int) < (k : Int) := by omega
            obtain ⟨j, hj⟩ : ∃ j, k = j + 1 := ⟨k - 1, by omega⟩
            have hjN : j < N := by omega
            have hris := HRise.out j (by rw [← HNL.out]; omega)
            rw [← hj] at hris
            have HRis := Lib.hid hris
            obtain ⟨Nj, hy1, hy2, hy3, hj3, hy4⟩ := HRow.out j (by rw [← HNL.out]; omega)
            clear hy2 hy3 hy4
            obtain rfl : N' = Nj := by omega
            clear hy1
            obtain ⟨zj, hzj⟩ : ∃ x, vs[j]? = some x := ⟨vs[j]'(by rw [HN.out]; exact hjN), by simp⟩
            have HCj := Lib.hid (show ∀ w' : World, Below wr.heap.size wr w' → w'.cell? ⟨gv, j, none⟩ = some zj from fun w' hb => ((HF.out.keep HB.out).keep hb).cell hzj)
            have hRj := (HF.out.keep HB.out).at' j zj hzj
            have HJ3 := Lib.hid hj3
            obtain ⟨bj, dj, rfl⟩ := hRj.lenS hj3
            have HRj := Lib.hid hRj
            have ej2 : (k : Int) - 1 = (j : Int) := by omega
            have ew : IntKind.i64.wrap ((k : Int) - 1) = (j : Int) := by rw [IntWalk.i64_in _ (by omega)]; omega
            have ew2 : IntKind.i64.wrap (j : Int) = (j : Int) := by rw [IntWalk.i64_in _ (by omega)]
            clear hris hzj hRj hj hj3
            go_wp2_with (first
              | (go_at_call 24; refine HIs.out.mono ?_; rintro e w31 ⟨rfl, hb⟩; have K31 := Lib.hid hb; have HRk1 := Lib.hid (HRk.out.keep hb); clear hb)
              | (go_at_call 25; refine (HTc.out _ HRk1.out).mono ?_; rintro e w32 ⟨u14, rfl, hr, hb⟩; have K32 := Lib.hid (Below.step K31.out K31.out.size hb); have HRk2 := Lib.hid (HRk1.out.keep hb); have R14 := Lib.hid hr; clear hr hb)
              | (go_at_call 11; refine (qSame_any _ _ _ _ R14.out.sl HRk2.out.sl (by have := H3.out; omega)).mono ?_; rintro e w33 ⟨rfl, hb⟩; have K33 := Lib.hid (Below.step K32.out K32.out.size hb); have HRk3 := Lib.hid (HRk2.out.keep hb); clear hb)
              | (go_at_call 26; refine (HSu.out _ HRk3.out.sl).mono ?_; rintro e w34 ⟨rfl, hb⟩; have K34 := Lib.hid (Below.step K33.out K33.out.size hb); have HRk4 := Lib.hid (HRk3.out.keep hb); have HRj4 := Lib.hid (HRj.out.keep K34.out); have hcj := HCj.out _ K34.out; clear hb)
              | (go_at_call 27; refine (qLess_first _ _ _ _ _ HRj4.out.sl HRk4.out.sl (by rw [HJ3.out]; omega) (by rw [H3.out]; omega) HRis.out (by rw [HJ3.out]; omega)).mono ?_; rintro e w35 ⟨rfl, hb⟩; have K35 := Lib.hid (Below.step K34.out K34.out.size hb); clear hb))
            go_roundw
            case rel => exact ⟨k + 1, by omega, by go_num, Below.step HB.out HB.out.size K35.out⟩
            case measure => simp [intOf]; omega
          · have hi0 : ¬ (0 : Int) < (k : Int) := by omega
            go_wp2_with (first
              | (go_at_call 24; refine HIs.out.mono ?_; rintro e w31 ⟨rfl, hb⟩; have K31 := Lib.hid hb; have HRk1 := Lib.hid (HRk.out.keep hb); clear hb)
              | (go_at_call 25; refine (HTc.out _ HRk1.out).mono ?_; rintro e w32 ⟨u14, rfl, hr, hb⟩; have K32 := Lib.hid (Below.step K31.out K31.out.size hb); have HRk2 := Lib.hid (HRk1.out.keep hb); have R14 := Lib.hid hr; clear hr hb)
              | (go_at_call 11; refine (qSame_any _ _ _ _ R14.out.sl HRk2.out.sl (by have := H3.out; omega)).mono ?_; rintro e w33 ⟨rfl, hb⟩; have K33 := Lib.hid (Below.step K32.out K32.out.size hb); have HRk3 := Lib.hid (HRk2.out.keep hb); clear hb)
              | (go_at_call 26; refine (HSu.out _ HRk3.out.sl).mono ?_; rintro e w34 ⟨rfl, hb⟩; have K34 := Lib.hid (Below.step K33.out K33.out.size hb); clear hb))
            go_roundw
            case rel => exact ⟨k + 1, by omega, by go_num, Below.step HB.out HB.out.size K34.out⟩
            case measure => simp [intOf]; omega
        · obtain rfl : k = N := by omega
          have hltI : ¬ (k : Int) < (k : Int) := by omega
          have B5 := Lib.hid (Below.step B4.out B4.out.size HB.out)
          have HF5 := Lib.hid (HF.out.keep HB.out)
          clear HB HF B4 HRow HZ HFew HRise hk hlt
          by_cases h7 : 7 ≤ M
          · have h7I : ¬ (M : Int) < 7 := by omega
            have h7J : (7 : Int) ≤ (M : Int) := by omega
            obtain ⟨N', hn', _, _, hls⟩ := HOne.out h7J
            have hNM : N' = M := by omega
            subst hNM
            subst hls
            clear hn' HOne
            rcases (show N' = 7 ∨ N' = 8 ∨ N' = 9 ∨ N' = 10 by omega) with rfl | rfl | rfl | rfl
            · obtain rfl : k = 1 := HNL.out
              rcases HA.out with hx | ⟨gv, rfl⟩
              · have := HN.out; rw [hx] at this; simp at this
              obtain ⟨z0, hz0⟩ : ∃ x, vs[0]? = some x := ⟨vs[0]'(by rw [HN.out]; omega), by simp⟩
              have hR0 := HF5.out.at' 0 z0 hz0
              obtain ⟨b0, d0, rfl⟩ := hR0.lenS (n := 7) rfl
              have HC0 := Lib.hid (show ∀ w' : World, Below wr.heap.size wr w' → w'.cell? ⟨gv, 0, none⟩ = some (.slice b0 7 d0) from fun w' hb => (HF5.out.keep hb).cell hz0)
              have HR0 := Lib.hid hR0
              have hgv : gv < wr.heap.size := (HF5.out.row.lt gv rfl).2
              have hne : ¬ gv = wr.heap.size := by omega
              have hne2 : ¬ wr.heap.size = gv := by omega
              clear hz0 hR0 HF5 hgv
              go_wp2_with (first
                | (at_make; refine wpList_mkR rfl _ _ rfl .i64 .i64 _ _ 7 rfl rfl rfl rfl (by omega) ?_; intro w6 hr6 hg6 hb6; have k0 : w6.cell? ⟨wr.heap.size, 0, none⟩ = some (.int .i64 0) := hr6.at.2.2.2.2.1 0 (by simp); have f0 : w6.frozen? ⟨wr.heap.size, 0, none⟩ = false := hr6.at.2.2.2.2.2 0; have k1 : w6.cell? ⟨wr.heap.size, 1, none⟩ = some (.int .i64 0) := hr6.at.2.2.2.2.1 1 (by simp); have f1 : w6.frozen? ⟨wr.heap.size, 1, none⟩ = false := hr6.at.2.2.2.2.2 1; have k2 : w6.cell? ⟨wr.heap.size, 2, none⟩ = some (.int .i64 0) := hr6.at.2.2.2.2.1 2 (by simp); have f2 : w6.frozen? ⟨wr.heap.size, 2, none⟩ = false := hr6.at.2.2.2.2.2 2; have k3 : w6.cell? ⟨wr.heap.size, 3, none⟩ = some (.int .i64 0) := hr6.at.2.2.2.2.1 3 (by simp); have f3 : w6.frozen? ⟨wr.heap.size, 3, none⟩ = false := hr6.at.2.2.2.2.2 3; have hcg := HC0.out w6 hb6; have R6 := Lib.hid hr6; have B6 := Lib.hid hb6; clear hr6 hg6 hb6)
                | (go_at_call 11; refine (qSame_any _ _ [3, 2, 1, 1, 0, 0, 0] _ (HR0.out.keep ((((B6.out.setCell (p := ⟨wr.heap.size, 0, none⟩) (Nat.le_refl _) _).setCell (p := ⟨wr.heap.size, 1, none⟩) (Nat.le_refl _) _).setCell (p := ⟨wr.heap.size, 2, none⟩) (Nat.le_refl _) _).setCell (p := ⟨wr.heap.size, 3, none⟩) (Nat.le_refl _) _)).sl (show Rd _ wr.heap.size (.slice (some ⟨wr.heap.size, 0, none⟩) 7 7) [3, 2, 1, 1, 0, 0, 0] from ((((R6.out.set 0 3).1.set 1 2).1.set 2 1).1.set 3 1).1).sl (by simp)).mono ?_; rintro e w7 ⟨rfl, hb⟩; have B7 := Lib.hid (Below.step B5.out B5.out.size (Below.step ((((B6.out.setCell (p := ⟨wr.heap.size, 0, none⟩) (Nat.le_refl _) _).setCell (p := ⟨wr.heap.size, 1, none⟩) (Nat.le_refl _) _).setCell (p := ⟨wr.heap.size, 2, none⟩) (Nat.le_refl _) _).setCell (p := ⟨wr.heap.size, 3, none⟩) (Nat.le_refl _) _) (by have := B6.out.size; simp; omega) hb)); clear hb))
              refine (draw_IsSelfTelling _ xs1 _ (HS1.out.keep B7.out) hl1).mono ?_
              rintro e w21 ⟨u17, l, rfl, hl, hr, hb⟩
              have R21 := Lib.hid (hr.mono B7.out.size)
              have B21 := Lib.hid (Below.step B7.out B7.out.size hb)
              have HLL := Lib.hid hl
              clear hr hb hl
              obtain ⟨a17, n17, c17, rfl⟩ : ∃ a n c, u17 = .slice a n c := by obtain ⟨a, c, e⟩ := R21.out.sl.len; exact ⟨a, _, c, e⟩
              have HI := Lib.hid (fun w' (h : Rd w' W.heap.size (.slice a17 n17 c17) l) => impl_IsSelfTelling _ l _ w' h (by have := HLL.out; omega))
              have HM := Lib.hid (fun w' (h : Rd w' W.heap.size (.slice a17 n17 c17) l) => spec_IsSelfTelling _ l _ w' h (by have := HLL.out; omega))
              have HJ := Lib.hid (fun w' (h : Rd w' W.heap.size (.slice a17 n17 c17) l) => impl_TellCounts _ l _ w' h (by have := HLL.out; omega))
              have HK := Lib.hid (fun w' (h : Rd w' W.heap.size (.slice a17 n17 c17) l) => spec_TellCounts _ l _ w' h (by have := HLL.out; omega))
              have HCl := Lib.hid (LF_TellCounts_len l (by have := HLL.out; omega))
              obtain ⟨t1, t2⟩ := tell_facts l
              have HT2 := Lib.hid t2
              rw [t1] at HJ HK HT2
              obtain ⟨q, hq⟩ : ∃ q, decide (TelR l) = q := ⟨_, rfl⟩
              obtain ⟨s, hs⟩ : ∃ s, selB l = s := ⟨_, rfl⟩
              have HI2 := Lib.hid (show ∀ w' : World, Rd w' W.heap.size (.slice a17 n17 c17) l → Calls Try.prog 24 #[.slice a17 n17 c17] w' fun e w'' => e = .returned (.tuple #[.bool (q && s), .bool q]) ∧ Below w'.heap.size w' w'' from fun w' h => by have := HI.out w' h; rw [VAL_IsSelfTelling, hq, hs] at this; exact this)
              have HM2 := Lib.hid (show ∀ w' : World, Rd w' W.heap.size (.slice a17 n17 c17) l → Calls Try.prog 29 #[.slice a17 n17 c17] w' fun e w'' => e = .returned (.tuple #[.bool (q && s), .bool q]) ∧ Below w'.heap.size w' w'' from fun w' h => by have := HM.out w' h; rw [VAL_IsSelfTelling, hq, hs] at this; exact this)
              rw [hq] at HJ HK HT2
              rw [hs] at HT2
              clear t1 t2 hq hs HI HM
              go_wp2_with fail
              refine (HI2.out _ R21.out).mono ?_
              rintro e w22 ⟨rfl, hb⟩
              have R22 := Lib.hid (R21.out.keep hb)
              have B22 := Lib.hid (Below.step B21.out B21.out.size hb)
              clear hb
              go_wp2_with fail
              refine (HM2.out _ R22.out).mono ?_
              rintro e w23 ⟨rfl, hb⟩
              have R23 := Lib.hid (R22.out.keep hb)
              have B23 := Lib.hid (Below.step B22.out B22.out.size hb)
              clear hb
              go_wp2_with fail
              refine (HJ.out _ R23.out).mono ?_
              rintro e w24 ⟨u22, rfl, hr, hb⟩
              have R24 := Lib.hid (R23.out.keep hb)
              have N24 := Lib.hid (hr.mono B23.out.size)
              have B24 := Lib.hid (Below.step B23.out B23.out.size hb)
              clear hr hb
              go_wp2_with fail
              refine (HK.out _ R24.out).mono ?_
              rintro e w25 ⟨u24, rfl, hr, hb⟩
              have R25 := Lib.hid (R24.out.keep hb)
              have N25 := Lib.hid (N24.out.keep hb)
              have O25 := Lib.hid (hr.mono B24.out.size)
              have B25 := Lib.hid (Below.step B24.out B24.out.size hb)
              clear hr hb R21 R22 R23 R24 N24 B21 B22 B23 B24 HI2 HM2 HJ HK
              cases q with
              | false =>
                go_wp2_with (go_at_call 11; refine (qSame_any _ _ (LF_TellCounts l) _ N25.out.sl O25.out.sl HCl.out).mono ?_; rintro e w26 ⟨rfl, hb⟩; have B26 := Lib.hid (Below.step B25.out B25.out.size hb); clear hb)
                go_ret
                exact ⟨by first | rfl | simp, B26.out⟩
              | true =>
                have hsd := HT2.out rfl
                subst hsd
                have HQ := Lib.hid (fun w' (h : Sl w' u22 (LF_TellCounts l)) (h2 : Sl w' (.slice a17 n17 c17) l) => qSame_dec u22 (.slice a17 n17 c17) (LF_TellCounts l) l w' h h2 HCl.out (by have := HLL.out; omega))
                obtain ⟨d, hd⟩ : ∃ d, decide (LF_TellCounts l = l) = d := ⟨_, rfl⟩
                rw [hd] at HQ
                simp only [hd]
                clear hd HT2
                go_wp2_with fail
                refine (qSame_any _ _ (LF_TellCounts l) _ N25.out.sl O25.out.sl HCl.out).mono ?_
                rintro e w26 ⟨rfl, hb⟩
                have R26 := Lib.hid (R25.out.keep hb)
                have N26 := Lib.hid (N25.out.keep hb)
                have B26 := Lib.hid (Below.step B25.out B25.out.size hb)
                clear hb
                go_wp2_with fail
                refine (HQ.out _ N26.out.sl R26.out.sl).mono ?_
                rintro e w27 ⟨rfl, hb⟩
                have B27 := Lib.hid (Below.step B26.out B26.out.size hb)
                clear hb
                cases d
                all_goals
                  go_wp2
                  go_ret
                  exact ⟨by first | rfl | simp, B27.out⟩
            · obtain rfl : k = 1 := HNL.out
              rcases HA.out with hx | ⟨gv, rfl⟩
              · have := HN.out; rw [hx] at this; simp at this
              obtain ⟨z0, hz0⟩ : ∃ x, vs[0]? = some x := ⟨vs[0]'(by rw [HN.out]; omega), by simp⟩
              have hR0 := HF5.out.at' 0 z0 hz0
              obtain ⟨b0, d0, rfl⟩ := hR0.lenS (n := 8) rfl
              have HC0 := Lib.hid (show ∀ w' : World, Below wr.heap.size wr w' → w'.cell? ⟨gv, 0, none⟩ = some (.slice b0 8 d0) from fun w' hb => (HF5.out.keep hb).cell hz0)
              have HR0 := Lib.hid hR0
              have hgv : gv < wr.heap.size := (HF5.out.row.lt gv rfl).2
              have hne : ¬ gv = wr.heap.size := by omega
              have hne2 : ¬ wr.heap.size = gv := by omega
              clear hz0 hR0 HF5 hgv
              go_wp2_with (first
                | (at_make; refine wpList_mkR rfl _ _ rfl .i64 .i64 _ _ 8 rfl rfl rfl rfl (by omega) ?_; intro w6 hr6 hg6 hb6; have k0 : w6.cell? ⟨wr.heap.size, 0, none⟩ = some (.int .i64 0) := hr6.at.2.2.2.2.1 0 (by simp); have f0 : w6.frozen? ⟨wr.heap.size, 0, none⟩ = false := hr6.at.2.2.2.2.2 0; have k1 : w6.cell? ⟨wr.heap.size, 1, none⟩ = some (.int .i64 0) := hr6.at.2.2.2.2.1 1 (by simp); have f1 : w6.frozen? ⟨wr.heap.size, 1, none⟩ = false := hr6.at.2.2.2.2.2 1; have k2 : w6.cell? ⟨wr.heap.size, 2, none⟩ = some (.int .i64 0) := hr6.at.2.2.2.2.1 2 (by simp); have f2 : w6.frozen? ⟨wr.heap.size, 2, none⟩ = false := hr6.at.2.2.2.2.2 2; have k4 : w6.cell? ⟨wr.heap.size, 4, none⟩ = some (.int .i64 0) := hr6.at.2.2.2.2.1 4 (by simp); have f4 : w6.frozen? ⟨wr.heap.size, 4, none⟩ = false := hr6.at.2.2.2.2.2 4; have hcg := HC0.out w6 hb6; have R6 := Lib.hid hr6; have B6 := Lib.hid hb6; clear hr6 hg6 hb6)
                | (go_at_call 11; refine (qSame_any _ _ [4, 2, 1, 0, 1, 0, 0, 0] _ (HR0.out.keep ((((B6.out.setCell (p := ⟨wr.heap.size, 0, none⟩) (Nat.le_refl _) _).setCell (p := ⟨wr.heap.size, 1, none⟩) (Nat.le_refl _) _).setCell (p := ⟨wr.heap.size, 2, none⟩) (Nat.le_refl _) _).setCell (p := ⟨wr.heap.size, 4, none⟩) (Nat.le_refl _) _)).sl (show Rd _ wr.heap.size (.slice (some ⟨wr.heap.size, 0, none⟩) 8 8) [4, 2, 1, 0, 1, 0, 0, 0] from ((((R6.out.set 0 4).1.set 1 2).1.set 2 1).1.set 4 1).1).sl (by simp)).mono ?_; rintro e w7 ⟨rfl, hb⟩; have B7 := Lib.hid (Below.step B5.out B5.out.size (Below.step ((((B6.out.setCell (p := ⟨wr.heap.size, 0, none⟩) (Nat.le_refl _) _).setCell (p := ⟨wr.heap.size, 1, none⟩) (Nat.le_refl _) _).setCell (p := ⟨wr.heap.size, 2, none⟩) (Nat.le_refl _) _).setCell (p := ⟨wr.heap.size, 4, none⟩) (Nat.le_refl _) _) (by have := B6.out.size; simp; omega) hb)); clear hb))
              refine (draw_IsSelfTelling _ xs1 _ (HS1.out.keep B7.out) hl1).mono ?_
              rintro e w21 ⟨u17, l, rfl, hl, hr, hb⟩
              have R21 := Lib.hid (hr.mono B7.out.size)
              have B21 := Lib.hid (Below.step B7.out B7.out.size hb)
              have HLL := Lib.hid hl
              clear hr hb hl
              obtain ⟨a17, n17, c17, rfl⟩ : ∃ a n c, u17 = .slice a n c := by obtain ⟨a, c, e⟩ := R21.out.sl.len; exact ⟨a, _, c, e⟩
              have HI := Lib.hid (fun w' (h : Rd w' W.heap.size (.slice a17 n17 c17) l) => impl_IsSelfTelling _ l _ w' h (by have := HLL.out; omega))
              have HM := Lib.hid (fun w' (h : Rd w' W.heap.size (.slice a17 n17 c17) l) => spec_IsSelfTelling _ l _ w' h (by have := HLL.out; omega))
              have HJ := Lib.hid (fun w' (h : Rd w' W.heap.size (.slice a17 n17 c17) l) => impl_TellCounts _ l _ w' h (by have := HLL.out; omega))
              have HK := Lib.hid (fun w' (h : Rd w' W.heap.size (.slice a17 n17 c17) l) => spec_TellCounts _ l _ w' h (by have := HLL.out; omega))
              have HCl := Lib.hid (LF_TellCounts_len l (by have := HLL.out; omega))
              obtain ⟨t1, t2⟩ := tell_facts l
              have HT2 := Lib.hid t2
              rw [t1] at HJ HK HT2
              obtain ⟨q, hq⟩ : ∃ q, decide (TelR l) = q := ⟨_, rfl⟩
              obtain ⟨s, hs⟩ : ∃ s, selB l = s := ⟨_, rfl⟩
              have HI2 := Lib.hid (show ∀ w' : World, Rd w' W.heap.size (.slice a17 n17 c17) l → Calls Try.prog 24 #[.slice a17 n17 c17] w' fun e w'' => e = .returned (.tuple #[.bool (q && s), .bool q]) ∧ Below w'.heap.size w' w'' from fun w' h => by have := HI.out w' h; rw [VAL_IsSelfTelling, hq, hs] at this; exact this)
              have HM2 := Lib.hid (show ∀ w' : World, Rd w' W.heap.size (.slice a17 n17 c17) l → Calls Try.prog 29 #[.slice a17 n17 c17] w' fun e w'' => e = .returned (.tuple #[.bool (q && s), .bool q]) ∧ Below w'.heap.size w' w'' from fun w' h => by have := HM.out w' h; rw [VAL_IsSelfTelling, hq, hs] at this; exact this)
              rw [hq] at HJ HK HT2
              rw [hs] at HT2
              clear t1 t2 hq hs HI HM
              go_wp2_with fail
              refine (HI2.out _ R21.out).mono ?_
              rintro e w22 ⟨rfl, hb⟩
              have R22 := Lib.hid (R21.out.keep hb)
              have B22 := Lib.hid (Below.step B21.out B21.out.size hb)
              clear hb
              go_wp2_with fail
              refine (HM2.out _ R22.out).mono ?_
              rintro e w23 ⟨rfl, hb⟩
              have R23 := Lib.hid (R22.out.keep hb)
              have B23 := Lib.hid (Below.step B22.out B22.out.size hb)
              clear hb
              go_wp2_with fail
              refine (HJ.out _ R23.out).mono ?_
              rintro e w24 ⟨u22, rfl, hr, hb⟩
              have R24 := Lib.hid (R23.out.keep hb)
              have N24 := Lib.hid (hr.mono B23.out.size)
              have B24 := Lib.hid (Below.step B23.out B23.out.size hb)
              clear hr hb
              go_wp2_with fail
              refine (HK.out _ R24.out).mono ?_
              rintro e w25 ⟨u24, rfl, hr, hb⟩
              have R25 := Lib.hid (R24.out.keep hb)
              have N25 := Lib.hid (N24.out.keep hb)
              have O25 := Lib.hid (hr.mono B24.out.size)
              have B25 := Lib.hid (Below.step B24.out B24.out.size hb)
              clear hr hb R21 R22 R23 R24 N24 B21 B22 B23 B24 HI2 HM2 HJ HK
              cases q with
              | false =>
                go_wp2_with (go_at_call 11; refine (qSame_any _ _ (LF_TellCounts l) _ N25.out.sl O25.out.sl HCl.out).mono ?_; rintro e w26 ⟨rfl, hb⟩; have B26 := Lib.hid (Below.step B25.out B25.out.size hb); clear hb)
                go_ret
                exact ⟨by first | rfl | simp, B26.out⟩
              | true =>
                have hsd := HT2.out rfl
                subst hsd
                have HQ := Lib.hid (fun w' (h : Sl w' u22 (LF_TellCounts l)) (h2 : Sl w' (.slice a17 n17 c17) l) => qSame_dec u22 (.slice a17 n17 c17) (LF_TellCounts l) l w' h h2 HCl.out (by have := HLL.out; omega))
                obtain ⟨d, hd⟩ : ∃ d, decide (LF_TellCounts l = l) = d := ⟨_, rfl⟩
                rw [hd] at HQ
                simp only [hd]
                clear hd HT2
                go_wp2_with fail
                refine (qSame_any _ _ (LF_TellCounts l) _ N25.out.sl O25.out.sl HCl.out).mono ?_
                rintro e w26 ⟨rfl, hb⟩
                have R26 := Lib.hid (R25.out.keep hb)
                have N26 := Lib.hid (N25.out.keep hb)
                have B26 := Lib.hid (Below.step B25.out B25.out.size hb)
                clear hb
                go_wp2_with fail
                refine (HQ.out _ N26.out.sl R26.out.sl).mono ?_
                rintro e w27 ⟨rfl, hb⟩
                have B27 := Lib.hid (Below.step B26.out B26.out.size hb)
                clear hb
                cases d
                all_goals
                  go_wp2
                  go_ret
                  exact ⟨by first | rfl | simp, B27.out⟩
            · obtain rfl : k = 1 := HNL.out
              rcases HA.out with hx | ⟨gv, rfl⟩
              · have := HN.out; rw [hx] at this; simp at this
              obtain ⟨z0, hz0⟩ : ∃ x, vs[0]? = some x := ⟨vs[0]'(by rw [HN.out]; omega), by simp⟩
              have hR0 := HF5.out.at' 0 z0 hz0
              obtain ⟨b0, d0, rfl⟩ := hR0.lenS (n := 9) rfl
              have HC0 := Lib.hid (show ∀ w' : World, Below wr.heap.size wr w' → w'.cell? ⟨gv, 0, none⟩ = some (.slice b0 9 d0) from fun w' hb => (HF5.out.keep hb).cell hz0)
              have HR0 := Lib.hid hR0
              have hgv : gv < wr.heap.size := (HF5.out.row.lt gv rfl).2
              have hne : ¬ gv = wr.heap.size := by omega
              have hne2 : ¬ wr.heap.size = gv := by omega
              clear hz0 hR0 HF5 hgv
              go_wp2_with (first
                | (at_make; refine wpList_mkR rfl _ _ rfl .i64 .i64 _ _ 9 rfl rfl rfl rfl (by omega) ?_; intro w6 hr6 hg6 hb6; have k0 : w6.cell? ⟨wr.heap.size, 0, none⟩ = some (.int .i64 0) := hr6.at.2.2.2.2.1 0 (by simp); have f0 : w6.frozen? ⟨wr.heap.size, 0, none⟩ = false := hr6.at.2.2.2.2.2 0; have k1 : w6.cell? ⟨wr.heap.size, 1, none⟩ = some (.int .i64 0) := hr6.at.2.2.2.2.1 1 (by simp); have f1 : w6.frozen? ⟨wr.heap.size, 1, none⟩ = false := hr6.at.2.2.2.2.2 1; have k2 : w6.cell? ⟨wr.heap.size, 2, none⟩ = some (.int .i64 0) := hr6.at.2.2.2.2.1 2 (by simp); have f2 : w6.frozen? ⟨wr.heap.size, 2, none⟩ = false := hr6.at.2.2.2.2.2 2; have k5 : w6.cell? ⟨wr.heap.size, 5, none⟩ = some (.int .i64 0) := hr6.at.2.2.2.2.1 5 (by simp); have f5 : w6.frozen? ⟨wr.heap.size, 5, none⟩ = false := hr6.at.2.2.2.2.2 5; have hcg := HC0.out w6 hb6; have R6 := Lib.hid hr6; have B6 := Lib.hid hb6; clear hr6 hg6 hb6)
                | (go_at_call 11; refine (qSame_any _ _ [5, 2, 1, 0, 0, 1, 0, 0, 0] _ (HR0.out.keep ((((B6.out.setCell (p := ⟨wr.heap.size, 0, none⟩) (Nat.le_refl _) _).setCell (p := ⟨wr.heap.size, 1, none⟩) (Nat.le_refl _) _).setCell (p := ⟨wr.heap.size, 2, none⟩) (Nat.le_refl _) _).setCell (p := ⟨wr.heap.size, 5, none⟩) (Nat.le_refl _) _)).sl (show Rd _ wr.heap.size (.slice (some ⟨wr.heap.size, 0, none⟩) 9 9) [5, 2, 1, 0, 0, 1, 0, 0, 0] from ((((R6.out.set 0 5).1.set 1 2).1.set 2 1).1.set 5 1).1).sl (by simp)).mono ?_; rintro e w7 ⟨rfl, hb⟩; have B7 := Lib.hid (Below.step B5.out B5.out.size (Below.step ((((B6.out.setCell (p := ⟨wr.heap.size, 0, none⟩) (Nat.le_refl _) _).setCell (p := ⟨wr.heap.size, 1, none⟩) (Nat.le_refl _) _).setCell (p := ⟨wr.heap.size, 2, none⟩) (Nat.le_refl _) _).setCell (p := ⟨wr.heap.size, 5, none⟩) (Nat.le_refl _) _) (by have := B6.out.size; simp; omega) hb)); clear hb))
              refine (draw_IsSelfTelling _ xs1 _ (HS1.out.keep B7.out) hl1).mono ?_
              rintro e w21 ⟨u17, l, rfl, hl, hr, hb⟩
              have R21 := Lib.hid (hr.mono B7.out.size)
              have B21 := Lib.hid (Below.step B7.out B7.out.size hb)
              have HLL := Lib.hid hl
              clear hr hb hl
              obtain ⟨a17, n17, c17, rfl⟩ : ∃ a n c, u17 = .slice a n c := by obtain ⟨a, c, e⟩ := R21.out.sl.len; exact ⟨a, _, c, e⟩
              have HI := Lib.hid (fun w' (h : Rd w' W.heap.size (.slice a17 n17 c17) l) => impl_IsSelfTelling _ l _ w' h (by have := HLL.out; omega))
              have HM := Lib.hid (fun w' (h : Rd w' W.heap.size (.slice a17 n17 c17) l) => spec_IsSelfTelling _ l _ w' h (by have := HLL.out; omega))
              have HJ := Lib.hid (fun w' (h : Rd w' W.heap.size (.slice a17 n17 c17) l) => impl_TellCounts _ l _ w' h (by have := HLL.out; omega))
              have HK := Lib.hid (fun w' (h : Rd w' W.heap.size (.slice a17 n17 c17) l) => spec_TellCounts _ l _ w' h (by have := HLL.out; omega))
              have HCl := Lib.hid (LF_TellCounts_len l (by have := HLL.out; omega))
              obtain ⟨t1, t2⟩ := tell_facts l
              have HT2 := Lib.hid t2
              rw [t1] at HJ HK HT2
              obtain ⟨q, hq⟩ : ∃ q, decide (TelR l) = q := ⟨_, rfl⟩
              obtain ⟨s, hs⟩ : ∃ s, selB l = s := ⟨_, rfl⟩
              have HI2 := Lib.hid (show ∀ w' : World, Rd w' W.heap.size (.slice a17 n17 c17) l → Calls Try.prog 24 #[.slice a17 n17 c17] w' fun e w'' => e = .returned (.tuple #[.bool (q && s), .bool q]) ∧ Below w'.heap.size w' w'' from fun w' h => by have := HI.out w' h; rw [VAL_IsSelfTelling, hq, hs] at this; exact this)
              have HM2 := Lib.hid (show ∀ w' : World, Rd w' W.heap.size (.slice a17 n17 c17) l → Calls Try.prog 29 #[.slice a17 n17 c17] w' fun e w'' => e = .returned (.tuple #[.bool (q && s), .bool q]) ∧ Below w'.heap.size w' w'' from fun w' h => by have := HM.out w' h; rw [VAL_IsSelfTelling, hq, hs] at this; exact this)
              rw [hq] at HJ HK HT2
              rw [hs] at HT2
              clear t1 t2 hq hs HI HM
              go_wp2_with fail
              refine (HI2.out _ R21.out).mono ?_
              rintro e w22 ⟨rfl, hb⟩
              have R22 := Lib.hid (R21.out.keep hb)
              have B22 := Lib.hid (Below.step B21.out B21.out.size hb)
              clear hb
              go_wp2_with fail
              refine (HM2.out _ R22.out).mono ?_
              rintro e w23 ⟨rfl, hb⟩
              have R23 := Lib.hid (R22.out.keep hb)
              have B23 := Lib.hid (Below.step B22.out B22.out.size hb)
              clear hb
              go_wp2_with fail
              refine (HJ.out _ R23.out).mono ?_
              rintro e w24 ⟨u22, rfl, hr, hb⟩
              have R24 := Lib.hid (R23.out.keep hb)
              have N24 := Lib.hid (hr.mono B23.out.size)
              have B24 := Lib.hid (Below.step B23.out B23.out.size hb)
              clear hr hb
              go_wp2_with fail
              refine (HK.out _ R24.out).mono ?_
              rintro e w25 ⟨u24, rfl, hr, hb⟩
              have R25 := Lib.hid (R24.out.keep hb)
              have N25 := Lib.hid (N24.out.keep hb)
              have O25 := Lib.hid (hr.mono B24.out.size)
              have B25 := Lib.hid (Below.step B24.out B24.out.size hb)
              clear hr hb R21 R22 R23 R24 N24 B21 B22 B23 B24 HI2 HM2 HJ HK
              cases q with
              | false =>
                go_wp2_with (go_at_call 11; refine (qSame_any _ _ (LF_TellCounts l) _ N25.out.sl O25.out.sl HCl.out).mono ?_; rintro e w26 ⟨rfl, hb⟩; have B26 := Lib.hid (Below.step B25.out B25.out.size hb); clear hb)
                go_ret
                exact ⟨by first | rfl | simp, B26.out⟩
              | true =>
                have hsd := HT2.out rfl
                subst hsd
                have HQ := Lib.hid (fun w' (h : Sl w' u22 (LF_TellCounts l)) (h2 : Sl w' (.slice a17 n17 c17) l) => qSame_dec u22 (.slice a17 n17 c17) (LF_TellCounts l) l w' h h2 HCl.out (by have := HLL.out; omega))
                obtain ⟨d, hd⟩ : ∃ d, decide (LF_TellCounts l = l) = d := ⟨_, rfl⟩
                rw [hd] at HQ
                simp only [hd]
                clear hd HT2
                go_wp2_with fail
                refine (qSame_any _ _ (LF_TellCounts l) _ N25.out.sl O25.out.sl HCl.out).mono ?_
                rintro e w26 ⟨rfl, hb⟩
                have R26 := Lib.hid (R25.out.keep hb)
                have N26 := Lib.hid (N25.out.keep hb)
                have B26 := Lib.hid (Below.step B25.out B25.out.size hb)
                clear hb
                go_wp2_with fail
                refine (HQ.out _ N26.out.sl R26.out.sl).mono ?_
                rintro e w27 ⟨rfl, hb⟩
                have B27 := Lib.hid (Below.step B26.out B26.out.size hb)
                clear hb
                cases d
                all_goals
                  go_wp2
                  go_ret
                  exact ⟨by first | rfl | simp, B27.out⟩
            · obtain rfl : k = 1 := HNL.out
              rcases HA.out with hx | ⟨gv, rfl⟩
              · have := HN.out; rw [hx] at this; simp at this
              obtain ⟨z0, hz0⟩ : ∃ x, vs[0]? = some x := ⟨vs[0]'(by rw [HN.out]; omega), by simp⟩
              have hR0 := HF5.out.at' 0 z0 hz0
              obtain ⟨b0, d0, rfl⟩ := hR0.lenS (n := 10) rfl
              have HC0 := Lib.hid (show ∀ w' : World, Below wr.heap.size wr w' → w'.cell? ⟨gv, 0, none⟩ = some (.slice b0 10 d0) from fun w' hb => (HF5.out.keep hb).cell hz0)
              have HR0 := Lib.hid hR0
              have hgv : gv < wr.heap.size := (HF5.out.row.lt gv rfl).2
              have hne : ¬ gv = wr.heap.size := by omega
              have hne2 : ¬ wr.heap.size = gv := by omega
              clear hz0 hR0 HF5 hgv
              go_wp2_with (first
                | (at_make; refine wpList_mkR rfl _ _ rfl .i64 .i64 _ _ 10 rfl rfl rfl rfl (by omega) ?_; intro w6 hr6 hg6 hb6; have k0 : w6.cell? ⟨wr.heap.size, 0, none⟩ = some (.int .i64 0) := hr6.at.2.2.2.2.1 0 (by simp); have f0 : w6.frozen? ⟨wr.heap.size, 0, none⟩ = false := hr6.at.2.2.2.2.2 0; have k1 : w6.cell? ⟨wr.heap.size, 1, none⟩ = some (.int .i64 0) := hr6.at.2.2.2.2.1 1 (by simp); have f1 : w6.frozen? ⟨wr.heap.size, 1, none⟩ = false := hr6.at.2.2.2.2.2 1; have k2 : w6.cell? ⟨wr.heap.size, 2, none⟩ = some (.int .i64 0) := hr6.at.2.2.2.2.1 2 (by simp); have f2 : w6.frozen? ⟨wr.heap.size, 2, none⟩ = false := hr6.at.2.2.2.2.2 2; have k6 : w6.cell? ⟨wr.heap.size, 6, none⟩ = some (.int .i64 0) := hr6.at.2.2.2.2.1 6 (by simp); have f6 : w6.frozen? ⟨wr.heap.size, 6, none⟩ = false := hr6.at.2.2.2.2.2 6; have hcg := HC0.out w6 hb6; have R6 := Lib.hid hr6; have B6 := Lib.hid hb6; clear hr6 hg6 hb6)
                | (go_at_call 11; refine (qSame_any _ _ [6, 2, 1, 0, 0, 0, 1, 0, 0, 0] _ (HR0.out.keep ((((B6.out.setCell (p := ⟨wr.heap.size, 0, none⟩) (Nat.le_refl _) _).setCell (p := ⟨wr.heap.size, 1, none⟩) (Nat.le_refl _) _).setCell (p := ⟨wr.heap.size, 2, none⟩) (Nat.le_refl _) _).setCell (p := ⟨wr.heap.size, 6, none⟩) (Nat.le_refl _) _)).sl (show Rd _ wr.heap.size (.slice (some ⟨wr.heap.size, 0, none⟩) 10 10) [6, 2, 1, 0, 0, 0, 1, 0, 0, 0] from ((((R6.out.set 0 6).1.set 1 2).1.set 2 1).1.set 6 1).1).sl (by simp)).mono ?_; rintro e w7 ⟨rfl, hb⟩; have B7 := Lib.hid (Below.step B5.out B5.out.size (Below.step ((((B6.out.setCell (p := ⟨wr.heap.size, 0, none⟩) (Nat.le_refl _) _).setCell (p := ⟨wr.heap.size, 1, none⟩) (Nat.le_refl _) _).setCell (p := ⟨wr.heap.size, 2, none⟩) (Nat.le_refl _) _).setCell (p := ⟨wr.heap.size, 6, none⟩) (Nat.le_refl _) _) (by have := B6.out.size; simp; omega) hb)); clear hb))
              refine (draw_IsSelfTelling _ xs1 _ (HS1.out.keep B7.out) hl1).mono ?_
              rintro e w21 ⟨u17, l, rfl, hl, hr, hb⟩
              have R21 := Lib.hid (hr.mono B7.out.size)
              have B21 := Lib.hid (Below.step B7.out B7.out.size hb)
              have HLL := Lib.hid hl
              clear hr hb hl
              obtain ⟨a17, n17, c17, rfl⟩ : ∃ a n c, u17 = .slice a n c := by obtain ⟨a, c, e⟩ := R21.out.sl.len; exact ⟨a, _, c, e⟩
              have HI := Lib.hid (fun w' (h : Rd w' W.heap.size (.slice a17 n17 c17) l) => impl_IsSelfTelling _ l _ w' h (by have := HLL.out; omega))
              have HM := Lib.hid (fun w' (h : Rd w' W.heap.size (.slice a17 n17 c17) l) => spec_IsSelfTelling _ l _ w' h (by have := HLL.out; omega))
              have HJ := Lib.hid (fun w' (h : Rd w' W.heap.size (.slice a17 n17 c17) l) => impl_TellCounts _ l _ w' h (by have := HLL.out; omega))
              have HK := Lib.hid (fun w' (h : Rd w' W.heap.size (.slice a17 n17 c17) l) => spec_TellCounts _ l _ w' h (by have := HLL.out; omega))
              have HCl := Lib.hid (LF_TellCounts_len l (by have := HLL.out; omega))
              obtain ⟨t1, t2⟩ := tell_facts l
              have HT2 := Lib.hid t2
              rw [t1] at HJ HK HT2
              obtain ⟨q, hq⟩ : ∃ q, decide (TelR l) = q := ⟨_, rfl⟩
              obtain ⟨s, hs⟩ : ∃ s, selB l = s := ⟨_, rfl⟩
              have HI2 := Lib.hid (show ∀ w' : World, Rd w' W.heap.size (.slice a17 n17 c17) l → Calls Try.prog 24 #[.slice a17 n17 c17] w' fun e w'' => e = .returned (.tuple #[.bool (q && s), .bool q]) ∧ Below w'.heap.size w' w'' from fun w' h => by have := HI.out w' h; rw [VAL_IsSelfTelling, hq, hs] at this; exact this)
              have HM2 := Lib.hid (show ∀ w' : World, Rd w' W.heap.size (.slice a17 n17 c17) l → Calls Try.prog 29 #[.slice a17 n17 c17] w' fun e w'' => e = .returned (.tuple #[.bool (q && s), .bool q]) ∧ Below w'.heap.size w' w'' from fun w' h => by have := HM.out w' h; rw [VAL_IsSelfTelling, hq, hs] at this; exact this)
              rw [hq] at HJ HK HT2
              rw [hs] at HT2
              clear t1 t2 hq hs HI HM
              go_wp2_with fail
              refine (HI2.out _ R21.out).mono ?_
              rintro e w22 ⟨rfl, hb⟩
              have R22 := Lib.hid (R21.out.keep hb)
              have B22 := Lib.hid (Below.step B21.out B21.out.size hb)
              clear hb
              go_wp2_with fail
              refine (HM2.out _ R22.out).mono ?_
              rintro e w23 ⟨rfl, hb⟩
              have R23 := Lib.hid (R22.out.keep hb)
              have B23 := Lib.hid (Below.step B22.out B22.out.size hb)
              clear hb
              go_wp2_with fail
              refine (HJ.out _ R23.out).mono ?_
              rintro e w24 ⟨u22, rfl, hr, hb⟩
              have R24 := Lib.hid (R23.out.keep hb)
              have N24 := Lib.hid (hr.mono B23.out.size)
              have B24 := Lib.hid (Below.step B23.out B23.out.size hb)
              clear hr hb
              go_wp2_with fail
              refine (HK.out _ R24.out).mono ?_
              rintro e w25 ⟨u24, rfl, hr, hb⟩
              have R25 := Lib.hid (R24.out.keep hb)
              have N25 := Lib.hid (N24.out.keep hb)
              have O25 := Lib.hid (hr.mono B24.out.size)
              have B25 := Lib.hid (Below.step B24.out B24.out.size hb)
              clear hr hb R21 R22 R23 R24 N24 B21 B22 B23 B24 HI2 HM2 HJ HK
              cases q with
              | false =>
                go_wp2_with (go_at_call 11; refine (qSame_any _ _ (LF_TellCounts l) _ N25.out.sl O25.out.sl HCl.out).mono ?_; rintro e w26 ⟨rfl, hb⟩; have B26 := Lib.hid (Below.step B25.out B25.out.size hb); clear hb)
                go_ret
                exact ⟨by first | rfl | simp, B26.out⟩
              | true =>
                have hsd := HT2.out rfl
                subst hsd
                have HQ := Lib.hid (fun w' (h : Sl w' u22 (LF_TellCounts l)) (h2 : Sl w' (.slice a17 n17 c17) l) => qSame_dec u22 (.slice a17 n17 c17) (LF_TellCounts l) l w' h h2 HCl.out (by have := HLL.out; omega))
                obtain ⟨d, hd⟩ : ∃ d, decide (LF_TellCounts l = l) = d := ⟨_, rfl⟩
                rw [hd] at HQ
                simp only [hd]
                clear hd HT2
                go_wp2_with fail
                refine (qSame_any _ _ (LF_TellCounts l) _ N25.out.sl O25.out.sl HCl.out).mono ?_
                rintro e w26 ⟨rfl, hb⟩
                have R26 := Lib.hid (R25.out.keep hb)
                have N26 := Lib.hid (N25.out.keep hb)
                have B26 := Lib.hid (Below.step B25.out B25.out.size hb)
                clear hb
                go_wp2_with fail
                refine (HQ.out _ N26.out.sl R26.out.sl).mono ?_
                rintro e w27 ⟨rfl, hb⟩
                have B27 := Lib.hid (Below.step B26.out B26.out.size hb)
                clear hb
                cases d
                all_goals
                  go_wp2
                  go_ret
                  exact ⟨by first | rfl | simp, B27.out⟩

          · have h7I : (M : Int) < 7 := by omega
            have h7J : ¬ (7 : Int) ≤ (M : Int) := by omega
            clear HOne HF5 HA HN HNL
            go_wp2_with fail
            refine (draw_IsSelfTelling _ xs1 _ (HS1.out.keep B5.out) hl1).mono ?_
            rintro e w21 ⟨u17, l, rfl, hl, hr, hb⟩
            have R21 := Lib.hid (hr.mono B5.out.size)
            have B21 := Lib.hid (Below.step B5.out B5.out.size hb)
            have HLL := Lib.hid hl
            clear hr hb hl
            obtain ⟨a17, n17, c17, rfl⟩ : ∃ a n c, u17 = .slice a n c := by obtain ⟨a, c, e⟩ := R21.out.sl.len; exact ⟨a, _, c, e⟩
            have HI := Lib.hid (fun w' (h : Rd w' W.heap.size (.slice a17 n17 c17) l) => impl_IsSelfTelling _ l _ w' h (by have := HLL.out; omega))
            have HM := Lib.hid (fun w' (h : Rd w' W.heap.size (.slice a17 n17 c17) l) => spec_IsSelfTelling _ l _ w' h (by have := HLL.out; omega))
            have HJ := Lib.hid (fun w' (h : Rd w' W.heap.size (.slice a17 n17 c17) l) => impl_TellCounts _ l _ w' h (by have := HLL.out; omega))
            have HK := Lib.hid (fun w' (h : Rd w' W.heap.size (.slice a17 n17 c17) l) => spec_TellCounts _ l _ w' h (by have := HLL.out; omega))
            have HCl := Lib.hid (LF_TellCounts_len l (by have := HLL.out; omega))
            obtain ⟨t1, t2⟩ := tell_facts l
            have HT2 := Lib.hid t2
            rw [t1] at HJ HK HT2
            obtain ⟨q, hq⟩ : ∃ q, decide (TelR l) = q := ⟨_, rfl⟩
            obtain ⟨s, hs⟩ : ∃ s, selB l = s := ⟨_, rfl⟩
            have HI2 := Lib.hid (show ∀ w' : World, Rd w' W.heap.size (.slice a17 n17 c17) l → Calls Try.prog 24 #[.slice a17 n17 c17] w' fun e w'' => e = .returned (.tuple #[.bool (q && s), .bool q]) ∧ Below w'.heap.size w' w'' from fun w' h => by have := HI.out w' h; rw [VAL_IsSelfTelling, hq, hs] at this; exact this)
            have HM2 := Lib.hid (show ∀ w' : World, Rd w' W.heap.size (.slice a17 n17 c17) l → Calls Try.prog 29 #[.slice a17 n17 c17] w' fun e w'' => e = .returned (.tuple #[.bool (q && s), .bool q]) ∧ Below w'.heap.size w' w'' from fun w' h => by have := HM.out w' h; rw [VAL_IsSelfTelling, hq, hs] at this; exact this)
            rw [hq] at HJ HK HT2
            rw [hs] at HT2
            clear t1 t2 hq hs HI HM
            go_wp2_with fail
            refine (HI2.out _ R21.out).mono ?_
            rintro e w22 ⟨rfl, hb⟩
            have R22 := Lib.hid (R21.out.keep hb)
            have B22 := Lib.hid (Below.step B21.out B21.out.size hb)
            clear hb
            go_wp2_with fail
            refine (HM2.out _ R22.out).mono ?_
            rintro e w23 ⟨rfl, hb⟩
            have R23 := Lib.hid (R22.out.keep hb)
            have B23 := Lib.hid (Below.step B22.out B22.out.size hb)
            clear hb
            go_wp2_with fail
            refine (HJ.out _ R23.out).mono ?_
            rintro e w24 ⟨u22, rfl, hr, hb⟩
            have R24 := Lib.hid (R23.out.keep hb)
            have N24 := Lib.hid (hr.mono B23.out.size)
            have B24 := Lib.hid (Below.step B23.out B23.out.size hb)
            clear hr hb
            go_wp2_with fail
            refine (HK.out _ R24.out).mono ?_
            rintro e w25 ⟨u24, rfl, hr, hb⟩
            have R25 := Lib.hid (R24.out.keep hb)
            have N25 := Lib.hid (N24.out.keep hb)
            have O25 := Lib.hid (hr.mono B24.out.size)
            have B25 := Lib.hid (Below.step B24.out B24.out.size hb)
            clear hr hb R21 R22 R23 R24 N24 B21 B22 B23 B24 HI2 HM2 HJ HK
            cases q with
            | false =>
              go_wp2_with (go_at_call 11; refine (qSame_any _ _ (LF_TellCounts l) _ N25.out.sl O25.out.sl HCl.out).mono ?_; rintro e w26 ⟨rfl, hb⟩; have B26 := Lib.hid (Below.step B25.out B25.out.size hb); clear hb)
              go_ret
              exact ⟨by first | rfl | simp, B26.out⟩
            | true =>
              have hsd := HT2.out rfl
              subst hsd
              have HQ := Lib.hid (fun w' (h : Sl w' u22 (LF_TellCounts l)) (h2 : Sl w' (.slice a17 n17 c17) l) => qSame_dec u22 (.slice a17 n17 c17) (LF_TellCounts l) l w' h h2 HCl.out (by have := HLL.out; omega))
              obtain ⟨d, hd⟩ : ∃ d, decide (LF_TellCounts l = l) = d := ⟨_, rfl⟩
              rw [hd] at HQ
              simp only [hd]
              clear hd HT2
              go_wp2_with fail
              refine (qSame_any _ _ (LF_TellCounts l) _ N25.out.sl O25.out.sl HCl.out).mono ?_
              rintro e w26 ⟨rfl, hb⟩
              have R26 := Lib.hid (R25.out.keep hb)
              have N26 := Lib.hid (N25.out.keep hb)
              have B26 := Lib.hid (Below.step B25.out B25.out.size hb)
              clear hb
              go_wp2_with fail
              refine (HQ.out _ N26.out.sl R26.out.sl).mono ?_
              rintro e w27 ⟨rfl, hb⟩
              have B27 := Lib.hid (Below.step B26.out B26.out.size hb)
              clear hb
              cases d
              all_goals
                go_wp2
                go_ret
                exact ⟨by first | rfl | simp, B27.out⟩
    · obtain ⟨e1, e2⟩ := SelR_no hsel
      rw [e1, e2] at HIS HSS
      clear e1 e2 hsel
      
      go_wp2_with fail
      refine (HIS.out _).mono ?_
      rintro e w2 ⟨u, vs, rfl, hr, hb⟩
      have L2 := Lib.hid (hr.mono B1.out.size)
      have B2 := Lib.hid (Below.step B1.out B1.out.size hb)
      clear hr hb
      go_wp2_with fail
      refine (HSS.out _).mono ?_
      rintro e w3 ⟨u2, vs2, rfl, hr, hb⟩
      have L3 := Lib.hid (L2.out.keep hb)
      have M3 := Lib.hid (hr.mono B2.out.size)
      have B3 := Lib.hid (Below.step B2.out B2.out.size hb)
      clear hr hb
      go_wp2_with fail
      refine (qSameRows_any _ _ vs vs2 (lsZ []) _ _ _ L3.out.f M3.out.f (by rw [L3.out.len, M3.out.len]) (by rw [L3.out.len]; simp) (fun i => by simp [lsZ])).mono ?_
      rintro e w4 ⟨rfl, hb⟩
      have HF0 := Lib.hid ((L3.out.keep hb).f)
      have HNV := Lib.hid L3.out.len
      have B4 := Lib.hid (Below.step B3.out B3.out.size hb)
      clear hb L2 L3 M3 B1 B2 B3 HIS HSS
      obtain ⟨a, cap, rfl, ha⟩ := HF0.out.shape
      
      have hv0 : vs.length = 0 := by rw [HNV.out]; rfl
      rw [hv0]
      clear ha hv0 HNV HF0
      go_wp2
      refine wp_loop_rounds 1 ?_
      rw [rounds_succ]
      go_wp2_with fail
      refine (draw_IsSelfTelling _ xs1 _ (HS1.out.keep B4.out) hl1).mono ?_
      rintro e w21 ⟨u17, l, rfl, hl, hr, hb⟩
      have R21 := Lib.hid (hr.mono B4.out.size)
      have B21 := Lib.hid (Below.step B4.out B4.out.size hb)
      have HLL := Lib.hid hl
      clear hr hb hl
      obtain ⟨a17, n17, c17, rfl⟩ : ∃ a n c, u17 = .slice a n c := by obtain ⟨a, c, e⟩ := R21.out.sl.len; exact ⟨a, _, c, e⟩
      have HI := Lib.hid (fun w' (h : Rd w' W.heap.size (.slice a17 n17 c17) l) => impl_IsSelfTelling _ l _ w' h (by have := HLL.out; omega))
      have HM := Lib.hid (fun w' (h : Rd w' W.heap.size (.slice a17 n17 c17) l) => spec_IsSelfTelling _ l _ w' h (by have := HLL.out; omega))
      have HJ := Lib.hid (fun w' (h : Rd w' W.heap.size (.slice a17 n17 c17) l) => impl_TellCounts _ l _ w' h (by have := HLL.out; omega))
      have HK := Lib.hid (fun w' (h : Rd w' W.heap.size (.slice a17 n17 c17) l) => spec_TellCounts _ l _ w' h (by have := HLL.out; omega))
      have HCl := Lib.hid (LF_TellCounts_len l (by have := HLL.out; omega))
      obtain ⟨t1, t2⟩ := tell_facts l
      have HT2 := Lib.hid t2
      rw [t1] at HJ HK HT2
      obtain ⟨q, hq⟩ : ∃ q, decide (TelR l) = q := ⟨_, rfl⟩
      obtain ⟨s, hs⟩ : ∃ s, selB l = s := ⟨_, rfl⟩
      have HI2 := Lib.hid (show ∀ w' : World, Rd w' W.heap.size (.slice a17 n17 c17) l → Calls Try.prog 24 #[.slice a17 n17 c17] w' fun e w'' => e = .returned (.tuple #[.bool (q && s), .bool q]) ∧ Below w'.heap.size w' w'' from fun w' h => by have := HI.out w' h; rw [VAL_IsSelfTelling, hq, hs] at this; exact this)
      have HM2 := Lib.hid (show ∀ w' : World, Rd w' W.heap.size (.slice a17 n17 c17) l → Calls Try.prog 29 #[.slice a17 n17 c17] w' fun e w'' => e = .returned (.tuple #[.bool (q && s), .bool q]) ∧ Below w'.heap.size w' w'' from fun w' h => by have := HM.out w' h; rw [VAL_IsSelfTelling, hq, hs] at this; exact this)
      rw [hq] at HJ HK HT2
      rw [hs] at HT2
      clear t1 t2 hq hs HI HM
      go_wp2_with fail
      refine (HI2.out _ R21.out).mono ?_
      rintro e w22 ⟨rfl, hb⟩
      have R22 := Lib.hid (R21.out.keep hb)
      have B22 := Lib.hid (Below.step B21.out B21.out.size hb)
      clear hb
      go_wp2_with fail
      refine (HM2.out _ R22.out).mono ?_
      rintro e w23 ⟨rfl, hb⟩
      have R23 := Lib.hid (R22.out.keep hb)
      have B23 := Lib.hid (Below.step B22.out B22.out.size hb)
      clear hb
      go_wp2_with fail
      refine (HJ.out _ R23.out).mono ?_
      rintro e w24 ⟨u22, rfl, hr, hb⟩
      have R24 := Lib.hid (R23.out.keep hb)
      have N24 := Lib.hid (hr.mono B23.out.size)
      have B24 := Lib.hid (Below.step B23.out B23.out.size hb)
      clear hr hb
      go_wp2_with fail
      refine (HK.out _ R24.out).mono ?_
      rintro e w25 ⟨u24, rfl, hr, hb⟩
      have R25 := Lib.hid (R24.out.keep hb)
      have N25 := Lib.hid (N24.out.keep hb)
      have O25 := Lib.hid (hr.mono B24.out.size)
      have B25 := Lib.hid (Below.step B24.out B24.out.size hb)
      clear hr hb R21 R22 R23 R24 N24 B21 B22 B23 B24 HI2 HM2 HJ HK
      cases q with
      | false =>
        go_wp2_with (go_at_call 11; refine (qSame_any _ _ (LF_TellCounts l) _ N25.out.sl O25.out.sl HCl.out).mono ?_; rintro e w26 ⟨rfl, hb⟩; have B26 := Lib.hid (Below.step B25.out B25.out.size hb); clear hb)
        go_ret
        exact ⟨by first | rfl | simp, B26.out⟩
      | true =>
        have hsd := HT2.out rfl
        subst hsd
        have HQ := Lib.hid (fun w' (h : Sl w' u22 (LF_TellCounts l)) (h2 : Sl w' (.slice a17 n17 c17) l) => qSame_dec u22 (.slice a17 n17 c17) (LF_TellCounts l) l w' h h2 HCl.out (by have := HLL.out; omega))
        obtain ⟨d, hd⟩ : ∃ d, decide (LF_TellCounts l = l) = d := ⟨_, rfl⟩
        rw [hd] at HQ
        simp only [hd]
        clear hd HT2
        go_wp2_with fail
        refine (qSame_any _ _ (LF_TellCounts l) _ N25.out.sl O25.out.sl HCl.out).mono ?_
        rintro e w26 ⟨rfl, hb⟩
        have R26 := Lib.hid (R25.out.keep hb)
        have N26 := Lib.hid (N25.out.keep hb)
        have B26 := Lib.hid (Below.step B25.out B25.out.size hb)
        clear hb
        go_wp2_with fail
        refine (HQ.out _ N26.out.sl R26.out.sl).mono ?_
        rintro e w27 ⟨rfl, hb⟩
        have B27 := Lib.hid (Below.step B26.out B26.out.size hb)
        clear hb
        cases d
        all_goals
          go_wp2
          go_ret
          exact ⟨by first | rfl | simp, B27.out⟩

end Go.Proofs.Ytmdjmbmkgboeaaa
