/-
  The law of said lists, walked.
-/
import Derived.Test.Ytmdjmbmkgboeaaa0Y
import Derived.Test.Ytmdjmbmkgboeaaa0Z
import Derived.Test.Ytmdjmbmkgboeaaa0S
import Derived.Test.Ytmdjmbmkgboeaaa96
namespace Go.Proofs.Ytmdjmbmkgboeaaa
open Go.RowKit
set_option linter.unusedVariables false
set_option linter.unusedSimpArgs false
set_option maxRecDepth 100000

theorem toT_next {S : List (Nat × Int)} {k : Nat} {t : Nat} {v : Int} (h : S[k]? = some (t, v)) : toT (S.take (k + 1)) = toT (S.take k) + t := by
  rw [take_snocP h, toT_app]
  simp [toT]
theorem lens_len (xs : List Int) (s : Int) : (LF_LengthsOfSay xs s).length = (LF_SayRun xs s).length := by unfold LF_LengthsOfSay lnL; simp
theorem Rd.lenM {w : World} {B n : Nat} {v : Value} {xs : List Int} (h : Rd w B v xs) (hn : xs.length = n) : ∃ a cap, v = .slice a n cap := by
  subst hn; exact h.sl.len
theorem Rd.cellD {w : World} {B n cap : Nat} {a : Option Addr} {xs : List Int} (h : Rd w B (.slice a n cap) xs) {j : Nat} (hj : j < xs.length) : ∃ g, a = some ⟨g, 0, none⟩ ∧ w.cell? ⟨g, j, none⟩ = some (.int .i64 (xs.getD j 0)) := by
  rcases h.cases with ⟨_, hx⟩ | ⟨g, c, hv, _, _, _, _, hc, _⟩
  · rw [hx] at hj; simp at hj
  · simp only [Value.slice.injEq] at hv
    exact ⟨g, hv.1, by rw [hc j hj]; simp [hj]⟩

set_option maxHeartbeats 4000000 in
theorem law_WordsSay {W : World} (v0 : Value) (xs0 : List Int) (hs0 : Sb W v0 xs0) (v1 : Value) (xs1 : List Int) (hs1 : Sb W v1 xs1) :
    Calls Try.prog 3 #[v0, v1] W fun e w' => e = .returned (.bool true) ∧ Below W.heap.size W w' := by
  have HS0 := Lib.hid hs0
  have HS1 := Lib.hid hs1
  obtain ⟨a0, c0, rfl⟩ := hs0.len
  obtain ⟨a1, c1, rfl⟩ := hs1.len
  clear hs0 hs1
  by_cases hbig : 1048576 < xs0.length ∨ 1048576 < xs0.length + xs1.length
  · have HBG := Lib.hid (big_any a0 a1 xs0.length xs1.length c0 c1 W)
    rw [decide_eq_true hbig] at HBG
    obtain ⟨n0, hn0⟩ : ∃ n0, n0 = xs0.length := ⟨_, rfl⟩
    obtain ⟨n1, hn1⟩ : ∃ n1, n1 = xs1.length := ⟨_, rfl⟩
    rw [← hn0, ← hn1] at HBG ⊢
    clear hbig hn0 hn1 HS0 HS1
    go_enter Try.func3, Try.ntmps3
    go_wp2_with (go_at_call 7; refine HBG.out.mono ?_; rintro e w1 ⟨rfl, rfl⟩)
    go_ret
    exact ⟨rfl, Below.refl _ _⟩
  · have HBG := Lib.hid (big_any a0 a1 xs0.length xs1.length c0 c1 W)
    rw [decide_eq_false hbig] at HBG
    have hl0 : xs0.length ≤ 1048576 := by omega
    have hl1 : xs1.length ≤ 1048576 := by omega
    clear hbig
    go_enter Try.func3, Try.ntmps3
    go_wp2_with (go_at_call 7; refine HBG.out.mono ?_; rintro e w1 ⟨rfl, rfl⟩)
    refine (draw_SayWord _ xs0 _ HS0.out hl0).mono ?_
    rintro e w1 ⟨uw, ws, rfl, hwl, hr, hb⟩
    have RW := Lib.hid hr
    have B1 := Lib.hid hb
    clear hr hb HBG
    have SF := Lib.hid (say_facts ws)
    have HLl := Lib.hid (LF_SayWord_len ws (by omega))
    obtain ⟨nw, hnw⟩ : ∃ n, ws.length = n := ⟨_, rfl⟩
    have HNW := Lib.hid hnw
    obtain ⟨aw, cw, rfl⟩ := RW.out.lenM hnw
    have HWl := Lib.hid hwl
    have HIW := Lib.hid (fun w' (h : Rd w' W.heap.size (.slice aw nw cw) ws) => impl_SayWord _ ws _ w' h (by omega))
    have HSW := Lib.hid (fun w' (h : Rd w' W.heap.size (.slice aw nw cw) ws) => spec_SayWord _ ws _ w' h (by omega))
    have hnw5 : nw ≤ 500 := by omega
    clear hnw hwl
    cases hq : OK_SayWord ws with
    | false =>
      rw [hq] at HIW HSW
      go_wp2_with fail
      refine (HIW.out _ RW.out).mono ?_
      rintro e w2 ⟨u6, rfl, hr, hb⟩
      have R62 := Lib.hid (hr.mono B1.out.size)
      have RW2 := Lib.hid (RW.out.keep hb)
      have B2 := Lib.hid (Below.step B1.out B1.out.size hb)
      clear hr hb

      obtain ⟨a6, n6, c6, rfl⟩ : ∃ a n c, u6 = .slice a n c := by obtain ⟨a, c, e⟩ := R62.out.sl.len; exact ⟨a, _, c, e⟩

      go_wp2_with fail
      refine (HSW.out _ RW2.out).mono ?_
      rintro e w3 ⟨u8, rfl, hr, hb⟩
      have R83 := Lib.hid (hr.mono B2.out.size)
      have R63 := Lib.hid (R62.out.keep hb)
      have RW3 := Lib.hid (RW2.out.keep hb)
      have B3 := Lib.hid (Below.step B2.out B2.out.size hb)
      clear hr hb
      go_wp2_with fail
      refine (qSame_any _ _ (LF_SayWord ws) _ R63.out.sl R83.out.sl HLl.out).mono ?_
      rintro e w4 ⟨rfl, hb⟩
      have R64 := Lib.hid (R63.out.keep hb)
      have RW4 := Lib.hid (RW3.out.keep hb)
      have BA := Lib.hid (Below.step B3.out B3.out.size hb)
      clear hb R62 RW2 R63 R83 RW3 B2 B3

      clear hq R64 RW4
      go_wp2_with fail
      refine (draw_UnsayWord _ xs1 _ (HS1.out.keep BA.out) hl1).mono ?_
      rintro e w11 ⟨u14, l14, rfl, hl14, hr, hb⟩
      have R14 := Lib.hid hr
      have B11 := Lib.hid (Below.step BA.out BA.out.size hb)
      have UF := Lib.hid (uns_facts l14)
      have R14b := Lib.hid (R14.out.mono BA.out.size)
      have HL14 := Lib.hid (show l14.length ≤ 1048576 by omega)
      clear hr hb hl14
      obtain ⟨a14, n14, c14, rfl⟩ : ∃ a n c, u14 = .slice a n c := by obtain ⟨a, c, e⟩ := R14.out.sl.len; exact ⟨a, _, c, e⟩
      have HIU := Lib.hid (fun w' (h : Rd w' W.heap.size (.slice a14 n14 c14) l14) => impl_UnsayWord _ l14 _ w' h HL14.out)
      have HSU := Lib.hid (fun w' (h : Rd w' W.heap.size (.slice a14 n14 c14) l14) => spec_UnsayWord _ l14 _ w' h HL14.out)
      cases hq14 : OK_UnsayWord l14 with
      | false =>
        rw [hq14] at HIU HSU
        go_wp2_with fail
        refine (HIU.out _ R14b.out).mono ?_
        rintro e w12 ⟨u15, rfl, hr, hb⟩
        have R15 := Lib.hid (hr.mono B11.out.size)
        have R14c := Lib.hid (R14b.out.keep hb)
        have B12 := Lib.hid (Below.step B11.out B11.out.size hb)
        clear hr hb
        go_wp2_with fail
        refine (HSU.out _ R14c.out).mono ?_
        rintro e w13 ⟨u17, rfl, hr, hb⟩
        have R17 := Lib.hid (hr.mono B12.out.size)
        have R15b := Lib.hid (R15.out.keep hb)
        have R14d := Lib.hid (R14c.out.keep hb)
        have B13 := Lib.hid (Below.step B12.out B12.out.size hb)
        clear hr hb
        go_wp2_with fail
        refine (qSame_any _ _ (LF_UnsayWord l14) _ R15b.out.sl R17.out.sl (by have := UF.out.short; omega)).mono ?_
        rintro e w14 ⟨rfl, hb⟩
        have R15c := Lib.hid (R15b.out.keep hb)
        have R14e := Lib.hid (R14d.out.keep hb)
        have B14 := Lib.hid (Below.step B13.out B13.out.size hb)
        clear hb R14b R14c R14d R15 R15b R17 B11 B12 B13 HIU HSU

        clear hq14 R15c R14e
        go_wp2_with fail
        refine (draw_SayRun _ xs1 _ (HS1.out.keep B14.out) hl1).mono ?_
        rintro e w21 ⟨u21, st, z, rfl, hst, hr, hb⟩
        have R21 := Lib.hid (hr.mono B14.out.size)
        have B21 := Lib.hid (Below.step B14.out B14.out.size hb)
        have RF := Lib.hid (run_facts st z)
        have HST := Lib.hid (show st.length ≤ 1048576 by omega)
        clear hr hb hst
        obtain ⟨a21, n21, c21, rfl⟩ : ∃ a n c, u21 = .slice a n c := by obtain ⟨a, c, e⟩ := R21.out.sl.len; exact ⟨a, _, c, e⟩
        have HIR := Lib.hid (fun w' (h : Rd w' W.heap.size (.slice a21 n21 c21) st) => impl_SayRun _ st z _ w' h HST.out)
        have HSR := Lib.hid (fun w' (h : Rd w' W.heap.size (.slice a21 n21 c21) st) => spec_SayRun _ st z _ w' h HST.out)
        have HIL := Lib.hid (fun w' (h : Rd w' W.heap.size (.slice a21 n21 c21) st) => impl_LengthsOfSay _ st z _ w' h HST.out)
        have HSL := Lib.hid (fun w' (h : Rd w' W.heap.size (.slice a21 n21 c21) st) => spec_LengthsOfSay _ st z _ w' h HST.out)
        have HOL := Lib.hid (show OK_LengthsOfSay st z = OK_SayRun st z from rfl)
        rw [HOL.out] at HIL HSL
        have HBd := Lib.hid (LF_SayRun_bd st z)
        have HLn := Lib.hid (lens_len st z)
        have HLe := Lib.hid (LF_LengthsOfSay_len st z HST.out)
        cases hr3 : OK_SayRun st z with
        | false =>
          rw [hr3] at HIR HSR HIL HSL
          go_wp2_with fail
          refine (HIR.out _ R21.out).mono ?_
          rintro e w22 ⟨u23, vs, rfl, hr, hb⟩
          have L22 := Lib.hid (hr.mono B21.out.size)
          have R22 := Lib.hid (R21.out.keep hb)
          have B22 := Lib.hid (Below.step B21.out B21.out.size hb)
          clear hr hb
          go_wp2_with fail
          refine (HSR.out _ R22.out).mono ?_
          rintro e w23 ⟨u25, vs2, rfl, hr, hb⟩
          have L23 := Lib.hid (L22.out.keep hb)
          have M23 := Lib.hid (hr.mono B22.out.size)
          have R23 := Lib.hid (R22.out.keep hb)
          have B23 := Lib.hid (Below.step B22.out B22.out.size hb)
          clear hr hb
          go_wp2_with fail
          refine (HIL.out _ R23.out).mono ?_
          rintro e w24 ⟨u27, rfl, hr, hb⟩
          have L24 := Lib.hid (L23.out.keep hb)
          have M24 := Lib.hid (M23.out.keep hb)
          have R24 := Lib.hid (R23.out.keep hb)
          have N24 := Lib.hid (hr.mono B23.out.size)
          have B24 := Lib.hid (Below.step B23.out B23.out.size hb)
          clear hr hb
          go_wp2_with fail
          refine (HSL.out _ R24.out).mono ?_
          rintro e w25 ⟨u29, rfl, hr, hb⟩
          have L25 := Lib.hid (L24.out.keep hb)
          have M25 := Lib.hid (M24.out.keep hb)
          have R25 := Lib.hid (R24.out.keep hb)
          have N25 := Lib.hid (N24.out.keep hb)
          have O25 := Lib.hid (hr.mono B24.out.size)
          have B25 := Lib.hid (Below.step B24.out B24.out.size hb)
          clear hr hb L22 R22 L23 M23 R23 L24 M24 R24 N24 B22 B23 B24 HIR HSR HIL HSL
          go_wp2_with fail
          refine (qSameRows_any _ _ vs vs2 (lsZ (LF_SayRun st z)) _ _ _ L25.out.f M25.out.f (by rw [L25.out.len, M25.out.len]) (by rw [L25.out.len]; exact HBd.out.1) (fun i => by have := HBd.out.2 i; omega)).mono ?_
          rintro e w26 ⟨rfl, hb⟩
          have HF6 := Lib.hid ((L25.out.keep hb).f)
          have HNV := Lib.hid L25.out.len
          have R26 := Lib.hid (R25.out.keep hb)
          have N26 := Lib.hid (N25.out.keep hb)
          have O26 := Lib.hid (O25.out.keep hb)
          have B26 := Lib.hid (Below.step B25.out B25.out.size hb)
          clear hb L25 M25 R25 N25 O25 B25
          go_wp2_with fail
          refine (qSame_any _ _ (LF_LengthsOfSay st z) _ N26.out.sl O26.out.sl HLe.out).mono ?_
          rintro e w27 ⟨rfl, hb⟩
          have HF7 := Lib.hid (HF6.out.keep hb)
          have R27 := Lib.hid (R26.out.keep hb)
          have N27 := Lib.hid (N26.out.keep hb)
          have B27 := Lib.hid (Below.step B26.out B26.out.size hb)
          clear hb HF6 R26 N26 O26 B26

          clear hr3
          go_wp2
          go_ret
          exact ⟨rfl, B27.out⟩
        | true =>
          rw [hr3] at HIR HSR HIL HSL
          go_wp2_with fail
          refine (HIR.out _ R21.out).mono ?_
          rintro e w22 ⟨u23, vs, rfl, hr, hb⟩
          have L22 := Lib.hid (hr.mono B21.out.size)
          have R22 := Lib.hid (R21.out.keep hb)
          have B22 := Lib.hid (Below.step B21.out B21.out.size hb)
          clear hr hb
          go_wp2_with fail
          refine (HSR.out _ R22.out).mono ?_
          rintro e w23 ⟨u25, vs2, rfl, hr, hb⟩
          have L23 := Lib.hid (L22.out.keep hb)
          have M23 := Lib.hid (hr.mono B22.out.size)
          have R23 := Lib.hid (R22.out.keep hb)
          have B23 := Lib.hid (Below.step B22.out B22.out.size hb)
          clear hr hb
          go_wp2_with fail
          refine (HIL.out _ R23.out).mono ?_
          rintro e w24 ⟨u27, rfl, hr, hb⟩
          have L24 := Lib.hid (L23.out.keep hb)
          have M24 := Lib.hid (M23.out.keep hb)
          have R24 := Lib.hid (R23.out.keep hb)
          have N24 := Lib.hid (hr.mono B23.out.size)
          have B24 := Lib.hid (Below.step B23.out B23.out.size hb)
          clear hr hb
          go_wp2_with fail
          refine (HSL.out _ R24.out).mono ?_
          rintro e w25 ⟨u29, rfl, hr, hb⟩
          have L25 := Lib.hid (L24.out.keep hb)
          have M25 := Lib.hid (M24.out.keep hb)
          have R25 := Lib.hid (R24.out.keep hb)
          have N25 := Lib.hid (N24.out.keep hb)
          have O25 := Lib.hid (hr.mono B24.out.size)
          have B25 := Lib.hid (Below.step B24.out B24.out.size hb)
          clear hr hb L22 R22 L23 M23 R23 L24 M24 R24 N24 B22 B23 B24 HIR HSR HIL HSL
          go_wp2_with fail
          refine (qSameRows_any _ _ vs vs2 (lsZ (LF_SayRun st z)) _ _ _ L25.out.f M25.out.f (by rw [L25.out.len, M25.out.len]) (by rw [L25.out.len]; exact HBd.out.1) (fun i => by have := HBd.out.2 i; omega)).mono ?_
          rintro e w26 ⟨rfl, hb⟩
          have HF6 := Lib.hid ((L25.out.keep hb).f)
          have HNV := Lib.hid L25.out.len
          have R26 := Lib.hid (R25.out.keep hb)
          have N26 := Lib.hid (N25.out.keep hb)
          have O26 := Lib.hid (O25.out.keep hb)
          have B26 := Lib.hid (Below.step B25.out B25.out.size hb)
          clear hb L25 M25 R25 N25 O25 B25
          go_wp2_with fail
          refine (qSame_any _ _ (LF_LengthsOfSay st z) _ N26.out.sl O26.out.sl HLe.out).mono ?_
          rintro e w27 ⟨rfl, hb⟩
          have HF7 := Lib.hid (HF6.out.keep hb)
          have R27 := Lib.hid (R26.out.keep hb)
          have N27 := Lib.hid (N26.out.keep hb)
          have B27 := Lib.hid (Below.step B26.out B26.out.size hb)
          clear hb HF6 R26 N26 O26 B26

          obtain ⟨z0, z1, hzl⟩ := RF.out.len hr3
          have hfst := RF.out.first hr3
          obtain ⟨Z, rfl⟩ : ∃ Z : Nat, z = (Z : Int) := ⟨z.toNat, by omega⟩
          obtain ⟨a23, c23, rfl, ha⟩ := HF7.out.shape
          obtain ⟨N, hN⟩ : ∃ N, N = vs.length := ⟨_, rfl⟩
          have HN := Lib.hid hN
          have HNL := Lib.hid (hN.trans HNV.out)
          have hNZ : N = Z + 1 := by have := HNL.out; omega
          have hZ30 : Z ≤ 30 := by omega
          rcases ha with hx | ⟨gv, rfl⟩
          · have := HN.out; rw [hx] at this; simp at this; omega
          rw [← hN] at HF7 ⊢
          obtain ⟨a27, c27, rfl⟩ := N27.out.lenM (HLn.out.trans HNL.out.symm)
          obtain ⟨x0, hx0⟩ : ∃ x, vs[0]? = some x := ⟨vs[0]'(by rw [← HN.out]; omega), by simp⟩
          have hc0 := HF7.out.cell hx0
          have hR0 := HF7.out.at' 0 x0 hx0
          rw [hfst] at hR0
          have HR0 := Lib.hid hR0
          have hw1 : IntKind.i64.wrap ((Z : Int) + 1) = (N : Int) := by rw [IntWalk.i64_in _ (by omega)]; omega
          have hN0 : 0 < N := by omega
          have hN31 : N ≤ 31 := by omega
          have HF := Lib.hid HF7.out
          obtain ⟨b0, m0, d0, rfl⟩ : ∃ a n c, x0 = .slice a n c := by obtain ⟨a, c, e⟩ := HR0.out.sl.len; exact ⟨a, _, c, e⟩
          have HNZ := Lib.hid hNZ
          clear hr3 z0 z1 hzl hfst hN hx0 hR0 hNZ
          go_wp2_with (go_at_call 11; refine (qSame_any _ _ st _ HR0.out.sl R27.out.sl (by have := HST.out; omega)).mono ?_; rintro e w28 ⟨rfl, hb⟩; have HF8 := Lib.hid (HF.out.keep hb); have N28 := Lib.hid (N27.out.keep hb); have B28 := Lib.hid (Below.step B27.out B27.out.size hb); clear hb)
          clear hc0 HF7 HF N27 R27 HR0 B27
          go_loopw [201] (fun i wr => ∃ k : Nat, k ≤ N ∧ i = .int .i64 (k : Int) ∧ Below w28.heap.size w28 wr) (fun i _ => N - (intOf i).toNat)
          case atStart => exact ⟨0, Nat.zero_le _, rfl, Below.refl _ _⟩
          case round =>
            obtain ⟨k, hk, rfl, hb⟩ := hrel
            have HB := Lib.hid hb
            clear hb
            by_cases hlt : k < N
            · have hltI : (k : Int) < (N : Int) := by omega
              obtain ⟨zk, hzk⟩ : ∃ x, vs[k]? = some x := ⟨vs[k]'(by rw [← HN.out]; exact hlt), by simp⟩
              have hck := (HF8.out.keep HB.out).cell hzk
              have hRk := (HF8.out.keep HB.out).at' k zk hzk
              obtain ⟨nk, hnk⟩ : ∃ n, (lsZ (LF_SayRun st (Z : Int)) k).length = n := ⟨_, rfl⟩
              obtain ⟨bk, dk, rfl⟩ := hRk.lenM hnk
              have HRk := Lib.hid hRk
              have hle := RF.out.lens k (by rw [← HNL.out]; exact hlt)
              rw [hnk] at hle
              obtain ⟨g27, rfl, hc27⟩ := (N28.out.keep HB.out).cellD (j := k) (by rw [HLn.out, ← HNL.out]; exact hlt)
              rw [hle] at hc27
              have hsk := RF.out.short k
              have HSK := Lib.hid hsk
              clear hzk hRk hle hnk hsk
              by_cases h0 : 0 < k
              · have hi0 : (0 : Int) < (k : Int) := by omega
                obtain ⟨j, hj⟩ : ∃ j, k = j + 1 := ⟨k - 1, by omega⟩
                have hjN : j < N := by omega
                have hsd := RF.out.said j (by rw [← HNL.out]; omega)
                rw [← hj] at hsd
                obtain ⟨zj, hzj⟩ : ∃ x, vs[j]? = some x := ⟨vs[j]'(by rw [← HN.out]; exact hjN), by simp⟩
                have hcj := (HF8.out.keep HB.out).cell hzj
                have hRj := (HF8.out.keep HB.out).at' j zj hzj
                have hsj := RF.out.short j
                have HSJ := Lib.hid (impl_SayWord _ _ _ _ hRj (by omega))
                rw [hsd.1, hsd.2] at HSJ
                obtain ⟨bj, mj, dj, rfl⟩ : ∃ a n c, zj = .slice a n c := by obtain ⟨a, c, e⟩ := hRj.sl.len; exact ⟨a, _, c, e⟩
                have ej2 : (k : Int) - 1 = (j : Int) := by omega
                have ew : IntKind.i64.wrap ((k : Int) - 1) = (j : Int) := by rw [IntWalk.i64_in _ (by omega)]; omega
                have ew2 : IntKind.i64.wrap (j : Int) = (j : Int) := by rw [IntWalk.i64_in _ (by omega)]
                have hwk : IntKind.i64.wrap ((k : Int) + 1) = (k : Int) + 1 := by rw [IntWalk.i64_in _ (by omega)]
                clear hsd hzj hRj hsj hj
                go_wp2_with (first
                  | (go_at_call 9; refine HSJ.out.mono ?_; rintro e w31 ⟨u33, rfl, hr, hb⟩; have R33 := Lib.hid hr; have HRk2 := Lib.hid (HRk.out.keep hb); have HB31 := Lib.hid (Below.step HB.out HB.out.size hb); clear hr hb)
                  | (go_at_call 11; refine (qSame_any _ _ _ _ R33.out.sl HRk2.out.sl (by have := HSK.out; omega)).mono ?_; rintro e w32 ⟨rfl, hb⟩; have HB32 := Lib.hid (Below.step HB31.out HB31.out.size hb); clear hb))
                go_roundw
                case rel => exact ⟨k + 1, by omega, by go_num, HB32.out⟩
                case measure => simp [intOf]; omega
              · have hi0 : ¬ (0 : Int) < (k : Int) := by omega
                have hwk : IntKind.i64.wrap ((k : Int) + 1) = (k : Int) + 1 := by rw [IntWalk.i64_in _ (by omega)]
                go_wp2
                go_roundw
                case rel => exact ⟨k + 1, by omega, by go_num, HB.out⟩
                case measure => simp [intOf]; omega
            · obtain rfl : k = N := by omega
              have hltI : ¬ (k : Int) < (k : Int) := by omega
              go_wp2
              go_ret
              exact ⟨rfl, Below.step B28.out B28.out.size HB.out⟩
      | true =>
        rw [hq14] at HIU HSU
        go_wp2_with fail
        refine (HIU.out _ R14b.out).mono ?_
        rintro e w12 ⟨u15, rfl, hr, hb⟩
        have R15 := Lib.hid (hr.mono B11.out.size)
        have R14c := Lib.hid (R14b.out.keep hb)
        have B12 := Lib.hid (Below.step B11.out B11.out.size hb)
        clear hr hb
        go_wp2_with fail
        refine (HSU.out _ R14c.out).mono ?_
        rintro e w13 ⟨u17, rfl, hr, hb⟩
        have R17 := Lib.hid (hr.mono B12.out.size)
        have R15b := Lib.hid (R15.out.keep hb)
        have R14d := Lib.hid (R14c.out.keep hb)
        have B13 := Lib.hid (Below.step B12.out B12.out.size hb)
        clear hr hb
        go_wp2_with fail
        refine (qSame_any _ _ (LF_UnsayWord l14) _ R15b.out.sl R17.out.sl (by have := UF.out.short; omega)).mono ?_
        rintro e w14 ⟨rfl, hb⟩
        have R15c := Lib.hid (R15b.out.keep hb)
        have R14e := Lib.hid (R14d.out.keep hb)
        have B14 := Lib.hid (Below.step B13.out B13.out.size hb)
        clear hb R14b R14c R14d R15 R15b R17 B11 B12 B13 HIU HSU

        obtain ⟨e1, e2⟩ := UF.out.back hq14
        have HA := Lib.hid (impl_SayWord _ (LF_UnsayWord l14) _ w14 R15c.out (by have := UF.out.short; omega))
        rw [e1, e2] at HA
        clear e1 e2 hq14
        go_wp2_with fail
        refine HA.out.mono ?_
        rintro e w15 ⟨u19, rfl, hr, hb⟩
        have R19 := Lib.hid hr
        have R14f := Lib.hid (R14e.out.keep hb)
        have B15 := Lib.hid (Below.step B14.out B14.out.size hb)
        clear hr hb
        go_wp2_with (go_at_call 11; refine (qSame_any _ _ l14 _ R19.out.sl R14f.out.sl (by have := HL14.out; omega)).mono ?_; rintro e w16 ⟨rfl, hb⟩; have B16 := Lib.hid (Below.step B15.out B15.out.size hb); clear hb)
        clear R19 R14f R15c R14e B15 B14 HA
        skip
        refine (draw_SayRun _ xs1 _ (HS1.out.keep B16.out) hl1).mono ?_
        rintro e w21 ⟨u21, st, z, rfl, hst, hr, hb⟩
        have R21 := Lib.hid (hr.mono B16.out.size)
        have B21 := Lib.hid (Below.step B16.out B16.out.size hb)
        have RF := Lib.hid (run_facts st z)
        have HST := Lib.hid (show st.length ≤ 1048576 by omega)
        clear hr hb hst
        obtain ⟨a21, n21, c21, rfl⟩ : ∃ a n c, u21 = .slice a n c := by obtain ⟨a, c, e⟩ := R21.out.sl.len; exact ⟨a, _, c, e⟩
        have HIR := Lib.hid (fun w' (h : Rd w' W.heap.size (.slice a21 n21 c21) st) => impl_SayRun _ st z _ w' h HST.out)
        have HSR := Lib.hid (fun w' (h : Rd w' W.heap.size (.slice a21 n21 c21) st) => spec_SayRun _ st z _ w' h HST.out)
        have HIL := Lib.hid (fun w' (h : Rd w' W.heap.size (.slice a21 n21 c21) st) => impl_LengthsOfSay _ st z _ w' h HST.out)
        have HSL := Lib.hid (fun w' (h : Rd w' W.heap.size (.slice a21 n21 c21) st) => spec_LengthsOfSay _ st z _ w' h HST.out)
        have HOL := Lib.hid (show OK_LengthsOfSay st z = OK_SayRun st z from rfl)
        rw [HOL.out] at HIL HSL
        have HBd := Lib.hid (LF_SayRun_bd st z)
        have HLn := Lib.hid (lens_len st z)
        have HLe := Lib.hid (LF_LengthsOfSay_len st z HST.out)
        cases hr3 : OK_SayRun st z with
        | false =>
          rw [hr3] at HIR HSR HIL HSL
          go_wp2_with fail
          refine (HIR.out _ R21.out).mono ?_
          rintro e w22 ⟨u23, vs, rfl, hr, hb⟩
          have L22 := Lib.hid (hr.mono B21.out.size)
          have R22 := Lib.hid (R21.out.keep hb)
          have B22 := Lib.hid (Below.step B21.out B21.out.size hb)
          clear hr hb
          go_wp2_with fail
          refine (HSR.out _ R22.out).mono ?_
          rintro e w23 ⟨u25, vs2, rfl, hr, hb⟩
          have L23 := Lib.hid (L22.out.keep hb)
          have M23 := Lib.hid (hr.mono B22.out.size)
          have R23 := Lib.hid (R22.out.keep hb)
          have B23 := Lib.hid (Below.step B22.out B22.out.size hb)
          clear hr hb
          go_wp2_with fail
          refine (HIL.out _ R23.out).mono ?_
          rintro e w24 ⟨u27, rfl, hr, hb⟩
          have L24 := Lib.hid (L23.out.keep hb)
          have M24 := Lib.hid (M23.out.keep hb)
          have R24 := Lib.hid (R23.out.keep hb)
          have N24 := Lib.hid (hr.mono B23.out.size)
          have B24 := Lib.hid (Below.step B23.out B23.out.size hb)
          clear hr hb
          go_wp2_with fail
          refine (HSL.out _ R24.out).mono ?_
          rintro e w25 ⟨u29, rfl, hr, hb⟩
          have L25 := Lib.hid (L24.out.keep hb)
          have M25 := Lib.hid (M24.out.keep hb)
          have R25 := Lib.hid (R24.out.keep hb)
          have N25 := Lib.hid (N24.out.keep hb)
          have O25 := Lib.hid (hr.mono B24.out.size)
          have B25 := Lib.hid (Below.step B24.out B24.out.size hb)
          clear hr hb L22 R22 L23 M23 R23 L24 M24 R24 N24 B22 B23 B24 HIR HSR HIL HSL
          go_wp2_with fail
          refine (qSameRows_any _ _ vs vs2 (lsZ (LF_SayRun st z)) _ _ _ L25.out.f M25.out.f (by rw [L25.out.len, M25.out.len]) (by rw [L25.out.len]; exact HBd.out.1) (fun i => by have := HBd.out.2 i; omega)).mono ?_
          rintro e w26 ⟨rfl, hb⟩
          have HF6 := Lib.hid ((L25.out.keep hb).f)
          have HNV := Lib.hid L25.out.len
          have R26 := Lib.hid (R25.out.keep hb)
          have N26 := Lib.hid (N25.out.keep hb)
          have O26 := Lib.hid (O25.out.keep hb)
          have B26 := Lib.hid (Below.step B25.out B25.out.size hb)
          clear hb L25 M25 R25 N25 O25 B25
          go_wp2_with fail
          refine (qSame_any _ _ (LF_LengthsOfSay st z) _ N26.out.sl O26.out.sl HLe.out).mono ?_
          rintro e w27 ⟨rfl, hb⟩
          have HF7 := Lib.hid (HF6.out.keep hb)
          have R27 := Lib.hid (R26.out.keep hb)
          have N27 := Lib.hid (N26.out.keep hb)
          have B27 := Lib.hid (Below.step B26.out B26.out.size hb)
          clear hb HF6 R26 N26 O26 B26

          clear hr3
          go_wp2
          go_ret
          exact ⟨rfl, B27.out⟩
        | true =>
          rw [hr3] at HIR HSR HIL HSL
          go_wp2_with fail
          refine (HIR.out _ R21.out).mono ?_
          rintro e w22 ⟨u23, vs, rfl, hr, hb⟩
          have L22 := Lib.hid (hr.mono B21.out.size)
          have R22 := Lib.hid (R21.out.keep hb)
          have B22 := Lib.hid (Below.step B21.out B21.out.size hb)
          clear hr hb
          go_wp2_with fail
          refine (HSR.out _ R22.out).mono ?_
          rintro e w23 ⟨u25, vs2, rfl, hr, hb⟩
          have L23 := Lib.hid (L22.out.keep hb)
          have M23 := Lib.hid (hr.mono B22.out.size)
          have R23 := Lib.hid (R22.out.keep hb)
          have B23 := Lib.hid (Below.step B22.out B22.out.size hb)
          clear hr hb
          go_wp2_with fail
          refine (HIL.out _ R23.out).mono ?_
          rintro e w24 ⟨u27, rfl, hr, hb⟩
          have L24 := Lib.hid (L23.out.keep hb)
          have M24 := Lib.hid (M23.out.keep hb)
          have R24 := Lib.hid (R23.out.keep hb)
          have N24 := Lib.hid (hr.mono B23.out.size)
          have B24 := Lib.hid (Below.step B23.out B23.out.size hb)
          clear hr hb
          go_wp2_with fail
          refine (HSL.out _ R24.out).mono ?_
          rintro e w25 ⟨u29, rfl, hr, hb⟩
          have L25 := Lib.hid (L24.out.keep hb)
          have M25 := Lib.hid (M24.out.keep hb)
          have R25 := Lib.hid (R24.out.keep hb)
          have N25 := Lib.hid (N24.out.keep hb)
          have O25 := Lib.hid (hr.mono B24.out.size)
          have B25 := Lib.hid (Below.step B24.out B24.out.size hb)
          clear hr hb L22 R22 L23 M23 R23 L24 M24 R24 N24 B22 B23 B24 HIR HSR HIL HSL
          go_wp2_with fail
          refine (qSameRows_any _ _ vs vs2 (lsZ (LF_SayRun st z)) _ _ _ L25.out.f M25.out.f (by rw [L25.out.len, M25.out.len]) (by rw [L25.out.len]; exact HBd.out.1) (fun i => by have := HBd.out.2 i; omega)).mono ?_
          rintro e w26 ⟨rfl, hb⟩
          have HF6 := Lib.hid ((L25.out.keep hb).f)
          have HNV := Lib.hid L25.out.len
          have R26 := Lib.hid (R25.out.keep hb)
          have N26 := Lib.hid (N25.out.keep hb)
          have O26 := Lib.hid (O25.out.keep hb)
          have B26 := Lib.hid (Below.step B25.out B25.out.size hb)
          clear hb L25 M25 R25 N25 O25 B25
          go_wp2_with fail
          refine (qSame_any _ _ (LF_LengthsOfSay st z) _ N26.out.sl O26.out.sl HLe.out).mono ?_
          rintro e w27 ⟨rfl, hb⟩
          have HF7 := Lib.hid (HF6.out.keep hb)
          have R27 := Lib.hid (R26.out.keep hb)
          have N27 := Lib.hid (N26.out.keep hb)
          have B27 := Lib.hid (Below.step B26.out B26.out.size hb)
          clear hb HF6 R26 N26 O26 B26

          obtain ⟨z0, z1, hzl⟩ := RF.out.len hr3
          have hfst := RF.out.first hr3
          obtain ⟨Z, rfl⟩ : ∃ Z : Nat, z = (Z : Int) := ⟨z.toNat, by omega⟩
          obtain ⟨a23, c23, rfl, ha⟩ := HF7.out.shape
          obtain ⟨N, hN⟩ : ∃ N, N = vs.length := ⟨_, rfl⟩
          have HN := Lib.hid hN
          have HNL := Lib.hid (hN.trans HNV.out)
          have hNZ : N = Z + 1 := by have := HNL.out; omega
          have hZ30 : Z ≤ 30 := by omega
          rcases ha with hx | ⟨gv, rfl⟩
          · have := HN.out; rw [hx] at this; simp at this; omega
          rw [← hN] at HF7 ⊢
          obtain ⟨a27, c27, rfl⟩ := N27.out.lenM (HLn.out.trans HNL.out.symm)
          obtain ⟨x0, hx0⟩ : ∃ x, vs[0]? = some x := ⟨vs[0]'(by rw [← HN.out]; omega), by simp⟩
          have hc0 := HF7.out.cell hx0
          have hR0 := HF7.out.at' 0 x0 hx0
          rw [hfst] at hR0
          have HR0 := Lib.hid hR0
          have hw1 : IntKind.i64.wrap ((Z : Int) + 1) = (N : Int) := by rw [IntWalk.i64_in _ (by omega)]; omega
          have hN0 : 0 < N := by omega
          have hN31 : N ≤ 31 := by omega
          have HF := Lib.hid HF7.out
          obtain ⟨b0, m0, d0, rfl⟩ : ∃ a n c, x0 = .slice a n c := by obtain ⟨a, c, e⟩ := HR0.out.sl.len; exact ⟨a, _, c, e⟩
          have HNZ := Lib.hid hNZ
          clear hr3 z0 z1 hzl hfst hN hx0 hR0 hNZ
          go_wp2_with (go_at_call 11; refine (qSame_any _ _ st _ HR0.out.sl R27.out.sl (by have := HST.out; omega)).mono ?_; rintro e w28 ⟨rfl, hb⟩; have HF8 := Lib.hid (HF.out.keep hb); have N28 := Lib.hid (N27.out.keep hb); have B28 := Lib.hid (Below.step B27.out B27.out.size hb); clear hb)
          clear hc0 HF7 HF N27 R27 HR0 B27
          go_loopw [201] (fun i wr => ∃ k : Nat, k ≤ N ∧ i = .int .i64 (k : Int) ∧ Below w28.heap.size w28 wr) (fun i _ => N - (intOf i).toNat)
          case atStart => exact ⟨0, Nat.zero_le _, rfl, Below.refl _ _⟩
          case round =>
            obtain ⟨k, hk, rfl, hb⟩ := hrel
            have HB := Lib.hid hb
            clear hb
            by_cases hlt : k < N
            · have hltI : (k : Int) < (N : Int) := by omega
              obtain ⟨zk, hzk⟩ : ∃ x, vs[k]? = some x := ⟨vs[k]'(by rw [← HN.out]; exact hlt), by simp⟩
              have hck := (HF8.out.keep HB.out).cell hzk
              have hRk := (HF8.out.keep HB.out).at' k zk hzk
              obtain ⟨nk, hnk⟩ : ∃ n, (lsZ (LF_SayRun st (Z : Int)) k).length = n := ⟨_, rfl⟩
              obtain ⟨bk, dk, rfl⟩ := hRk.lenM hnk
              have HRk := Lib.hid hRk
              have hle := RF.out.lens k (by rw [← HNL.out]; exact hlt)
              rw [hnk] at hle
              obtain ⟨g27, rfl, hc27⟩ := (N28.out.keep HB.out).cellD (j := k) (by rw [HLn.out, ← HNL.out]; exact hlt)
              rw [hle] at hc27
              have hsk := RF.out.short k
              have HSK := Lib.hid hsk
              clear hzk hRk hle hnk hsk
              by_cases h0 : 0 < k
              · have hi0 : (0 : Int) < (k : Int) := by omega
                obtain ⟨j, hj⟩ : ∃ j, k = j + 1 := ⟨k - 1, by omega⟩
                have hjN : j < N := by omega
                have hsd := RF.out.said j (by rw [← HNL.out]; omega)
                rw [← hj] at hsd
                obtain ⟨zj, hzj⟩ : ∃ x, vs[j]? = some x := ⟨vs[j]'(by rw [← HN.out]; exact hjN), by simp⟩
                have hcj := (HF8.out.keep HB.out).cell hzj
                have hRj := (HF8.out.keep HB.out).at' j zj hzj
                have hsj := RF.out.short j
                have HSJ := Lib.hid (impl_SayWord _ _ _ _ hRj (by omega))
                rw [hsd.1, hsd.2] at HSJ
                obtain ⟨bj, mj, dj, rfl⟩ : ∃ a n c, zj = .slice a n c := by obtain ⟨a, c, e⟩ := hRj.sl.len; exact ⟨a, _, c, e⟩
                have ej2 : (k : Int) - 1 = (j : Int) := by omega
                have ew : IntKind.i64.wrap ((k : Int) - 1) = (j : Int) := by rw [IntWalk.i64_in _ (by omega)]; omega
                have ew2 : IntKind.i64.wrap (j : Int) = (j : Int) := by rw [IntWalk.i64_in _ (by omega)]
                have hwk : IntKind.i64.wrap ((k : Int) + 1) = (k : Int) + 1 := by rw [IntWalk.i64_in _ (by omega)]
                clear hsd hzj hRj hsj hj
                go_wp2_with (first
                  | (go_at_call 9; refine HSJ.out.mono ?_; rintro e w31 ⟨u33, rfl, hr, hb⟩; have R33 := Lib.hid hr; have HRk2 := Lib.hid (HRk.out.keep hb); have HB31 := Lib.hid (Below.step HB.out HB.out.size hb); clear hr hb)
                  | (go_at_call 11; refine (qSame_any _ _ _ _ R33.out.sl HRk2.out.sl (by have := HSK.out; omega)).mono ?_; rintro e w32 ⟨rfl, hb⟩; have HB32 := Lib.hid (Below.step HB31.out HB31.out.size hb); clear hb))
                go_roundw
                case rel => exact ⟨k + 1, by omega, by go_num, HB32.out⟩
                case measure => simp [intOf]; omega
              · have hi0 : ¬ (0 : Int) < (k : Int) := by omega
                have hwk : IntKind.i64.wrap ((k : Int) + 1) = (k : Int) + 1 := by rw [IntWalk.i64_in _ (by omega)]
                go_wp2
                go_roundw
                case rel => exact ⟨k + 1, by omega, by go_num, HB.out⟩
                case measure => simp [intOf]; omega
            · obtain rfl : k = N := by omega
              have hltI : ¬ (k : Int) < (k : Int) := by omega
              go_wp2
              go_ret
              exact ⟨rfl, Below.step B28.out B28.out.size HB.out⟩
    | true =>
      rw [hq] at HIW HSW
      go_wp2_with fail
      refine (HIW.out _ RW.out).mono ?_
      rintro e w2 ⟨u6, rfl, hr, hb⟩
      have R62 := Lib.hid (hr.mono B1.out.size)
      have RW2 := Lib.hid (RW.out.keep hb)
      have B2 := Lib.hid (Below.step B1.out B1.out.size hb)
      clear hr hb

      obtain ⟨S, hS1, hS2, hS3, hS4, hS5⟩ := SF.out.even hq
      obtain ⟨M, hM⟩ : ∃ M, S.length = M := ⟨_, rfl⟩
      rw [hM] at hS1 hS2
      obtain ⟨a6, c6, rfl⟩ := R62.out.lenM hS1

      go_wp2_with fail
      refine (HSW.out _ RW2.out).mono ?_
      rintro e w3 ⟨u8, rfl, hr, hb⟩
      have R83 := Lib.hid (hr.mono B2.out.size)
      have R63 := Lib.hid (R62.out.keep hb)
      have RW3 := Lib.hid (RW2.out.keep hb)
      have B3 := Lib.hid (Below.step B2.out B2.out.size hb)
      clear hr hb
      go_wp2_with fail
      refine (qSame_any _ _ (LF_SayWord ws) _ R63.out.sl R83.out.sl HLl.out).mono ?_
      rintro e w4 ⟨rfl, hb⟩
      have R64 := Lib.hid (R63.out.keep hb)
      have RW4 := Lib.hid (RW3.out.keep hb)
      have BA := Lib.hid (Below.step B3.out B3.out.size hb)
      clear hb R62 RW2 R63 R83 RW3 B2 B3

      obtain ⟨e1, e2⟩ := SF.out.back hq
      have HU := Lib.hid (impl_UnsayWord _ (LF_SayWord ws) _ w4 R64.out (by rw [hS1]; omega))
      rw [e1, e2] at HU
      have HS5 := Lib.hid hS5
      have HTN := Lib.hid (hS3.trans HNW.out)
      have hmod : ((M : Int) + (M : Int)) % 2 = 0 := by omega
      have HS1x := Lib.hid hS1
      have HSM := Lib.hid hM
      clear e1 e2 hq hS1 hS3 hS4 hS5 hM
      go_wp2_with fail
      refine HU.out.mono ?_
      rintro e w5 ⟨u10, rfl, hr, hb⟩
      have R10 := Lib.hid hr
      have R65 := Lib.hid (R64.out.keep hb)
      have RW5 := Lib.hid (RW4.out.keep hb)
      have B5 := Lib.hid (Below.step BA.out BA.out.size hb)
      clear hr hb BA
      go_wp2_with (go_at_call 11; refine (qSame_any _ _ ws _ R10.out.sl RW5.out.sl (by have := HWl.out; omega)).mono ?_; rintro e w6 ⟨rfl, hb⟩; have R66 := Lib.hid (R65.out.keep hb); have B6 := Lib.hid (Below.step B5.out B5.out.size hb); clear hb)
      go_loopw [12, 13] (fun t i wr => ∃ k i2 T : Nat, k ≤ M ∧ Hid (i2 = k + k) ∧ Hid (T = toT (S.take k)) ∧ t = .int .i64 (T : Int) ∧ i = .int .i64 (i2 : Int) ∧ Below w6.heap.size w6 wr) (fun _ i _ => M + M - (intOf i).toNat)
      case atStart => exact ⟨0, 0, 0, Nat.zero_le _, Lib.hid rfl, Lib.hid rfl, rfl, rfl, Below.refl _ _⟩
      case round =>
        obtain ⟨k, i2, T, hk, HI2, HT, rfl, rfl, hbl⟩ := hrel
        have HBL := Lib.hid hbl
        clear hbl
        by_cases hlt : k < M
        · have hltN : (i2 : Int) < (M : Int) + (M : Int) := by have := HI2.out; omega
          have hltN2 : i2 < M + M := by have := HI2.out; omega
          obtain ⟨⟨t, v⟩, hp⟩ : ∃ p, S[k]? = some p := ⟨_, List.getElem?_eq_getElem (by rw [HSM.out]; exact hlt)⟩
          have hgt := HS5.out k t v hp
          obtain ⟨g6, rfl, hc⟩ := (R66.out.keep HBL.out).cellD (j := i2) (by rw [HS1x.out]; exact hltN2)
          rw [HI2.out, hgt, ← HI2.out] at hc
          have HTx := Lib.hid (toT_next hp)
          have htk := toT_take_le S (k + 1)
          have hTb : T + t ≤ 500 := by have := HTx.out; have := HT.out; have := HTN.out; omega
          have hi4 : i2 ≤ 400 := by omega
          clear hp hgt htk
          go_wp2
          go_roundw
          case rel => exact ⟨k + 1, i2 + 2, T + t, by omega, Lib.hid (by have := HI2.out; omega), Lib.hid (by have := HTx.out; have := HT.out; omega), by go_num, by go_num, HBL.out⟩
          case measure => simp [intOf]; omega
        · obtain rfl : k = M := by omega
          obtain rfl : T = nw := by have h5 := HT.out; rw [List.take_of_length_le (by rw [HSM.out]; exact Nat.le_refl _)] at h5; have := HTN.out; omega
          have hltN : ¬ (i2 : Int) < (k : Int) + (k : Int) := by have := HI2.out; omega
          have BB := Lib.hid (Below.step B6.out B6.out.size HBL.out)
          clear HBL B6 R66 R65 RW5 R10 HU
          go_wp2_with fail
          refine (draw_UnsayWord _ xs1 _ (HS1.out.keep BB.out) hl1).mono ?_
          rintro e w11 ⟨u14, l14, rfl, hl14, hr, hb⟩
          have R14 := Lib.hid hr
          have B11 := Lib.hid (Below.step BB.out BB.out.size hb)
          have UF := Lib.hid (uns_facts l14)
          have R14b := Lib.hid (R14.out.mono BB.out.size)
          have HL14 := Lib.hid (show l14.length ≤ 1048576 by omega)
          clear hr hb hl14
          obtain ⟨a14, n14, c14, rfl⟩ : ∃ a n c, u14 = .slice a n c := by obtain ⟨a, c, e⟩ := R14.out.sl.len; exact ⟨a, _, c, e⟩
          have HIU := Lib.hid (fun w' (h : Rd w' W.heap.size (.slice a14 n14 c14) l14) => impl_UnsayWord _ l14 _ w' h HL14.out)
          have HSU := Lib.hid (fun w' (h : Rd w' W.heap.size (.slice a14 n14 c14) l14) => spec_UnsayWord _ l14 _ w' h HL14.out)
          cases hq14 : OK_UnsayWord l14 with
          | false =>
            rw [hq14] at HIU HSU
            go_wp2_with fail
            refine (HIU.out _ R14b.out).mono ?_
            rintro e w12 ⟨u15, rfl, hr, hb⟩
            have R15 := Lib.hid (hr.mono B11.out.size)
            have R14c := Lib.hid (R14b.out.keep hb)
            have B12 := Lib.hid (Below.step B11.out B11.out.size hb)
            clear hr hb
            go_wp2_with fail
            refine (HSU.out _ R14c.out).mono ?_
            rintro e w13 ⟨u17, rfl, hr, hb⟩
            have R17 := Lib.hid (hr.mono B12.out.size)
            have R15b := Lib.hid (R15.out.keep hb)
            have R14d := Lib.hid (R14c.out.keep hb)
            have B13 := Lib.hid (Below.step B12.out B12.out.size hb)
            clear hr hb
            go_wp2_with fail
            refine (qSame_any _ _ (LF_UnsayWord l14) _ R15b.out.sl R17.out.sl (by have := UF.out.short; omega)).mono ?_
            rintro e w14 ⟨rfl, hb⟩
            have R15c := Lib.hid (R15b.out.keep hb)
            have R14e := Lib.hid (R14d.out.keep hb)
            have B14 := Lib.hid (Below.step B13.out B13.out.size hb)
            clear hb R14b R14c R14d R15 R15b R17 B11 B12 B13 HIU HSU

            clear hq14 R15c R14e
            go_wp2_with fail
            refine (draw_SayRun _ xs1 _ (HS1.out.keep B14.out) hl1).mono ?_
            rintro e w21 ⟨u21, st, z, rfl, hst, hr, hb⟩
            have R21 := Lib.hid (hr.mono B14.out.size)
            have B21 := Lib.hid (Below.step B14.out B14.out.size hb)
            have RF := Lib.hid (run_facts st z)
            have HST := Lib.hid (show st.length ≤ 1048576 by omega)
            clear hr hb hst
            obtain ⟨a21, n21, c21, rfl⟩ : ∃ a n c, u21 = .slice a n c := by obtain ⟨a, c, e⟩ := R21.out.sl.len; exact ⟨a, _, c, e⟩
            have HIR := Lib.hid (fun w' (h : Rd w' W.heap.size (.slice a21 n21 c21) st) => impl_SayRun _ st z _ w' h HST.out)
            have HSR := Lib.hid (fun w' (h : Rd w' W.heap.size (.slice a21 n21 c21) st) => spec_SayRun _ st z _ w' h HST.out)
            have HIL := Lib.hid (fun w' (h : Rd w' W.heap.size (.slice a21 n21 c21) st) => impl_LengthsOfSay _ st z _ w' h HST.out)
            have HSL := Lib.hid (fun w' (h : Rd w' W.heap.size (.slice a21 n21 c21) st) => spec_LengthsOfSay _ st z _ w' h HST.out)
            have HOL := Lib.hid (show OK_LengthsOfSay st z = OK_SayRun st z from rfl)
            rw [HOL.out] at HIL HSL
            have HBd := Lib.hid (LF_SayRun_bd st z)
            have HLn := Lib.hid (lens_len st z)
            have HLe := Lib.hid (LF_LengthsOfSay_len st z HST.out)
            cases hr3 : OK_SayRun st z with
            | false =>
              rw [hr3] at HIR HSR HIL HSL
              go_wp2_with fail
              refine (HIR.out _ R21.out).mono ?_
              rintro e w22 ⟨u23, vs, rfl, hr, hb⟩
              have L22 := Lib.hid (hr.mono B21.out.size)
              have R22 := Lib.hid (R21.out.keep hb)
              have B22 := Lib.hid (Below.step B21.out B21.out.size hb)
              clear hr hb
              go_wp2_with fail
              refine (HSR.out _ R22.out).mono ?_
              rintro e w23 ⟨u25, vs2, rfl, hr, hb⟩
              have L23 := Lib.hid (L22.out.keep hb)
              have M23 := Lib.hid (hr.mono B22.out.size)
              have R23 := Lib.hid (R22.out.keep hb)
              have B23 := Lib.hid (Below.step B22.out B22.out.size hb)
              clear hr hb
              go_wp2_with fail
              refine (HIL.out _ R23.out).mono ?_
              rintro e w24 ⟨u27, rfl, hr, hb⟩
              have L24 := Lib.hid (L23.out.keep hb)
              have M24 := Lib.hid (M23.out.keep hb)
              have R24 := Lib.hid (R23.out.keep hb)
              have N24 := Lib.hid (hr.mono B23.out.size)
              have B24 := Lib.hid (Below.step B23.out B23.out.size hb)
              clear hr hb
              go_wp2_with fail
              refine (HSL.out _ R24.out).mono ?_
              rintro e w25 ⟨u29, rfl, hr, hb⟩
              have L25 := Lib.hid (L24.out.keep hb)
              have M25 := Lib.hid (M24.out.keep hb)
              have R25 := Lib.hid (R24.out.keep hb)
              have N25 := Lib.hid (N24.out.keep hb)
              have O25 := Lib.hid (hr.mono B24.out.size)
              have B25 := Lib.hid (Below.step B24.out B24.out.size hb)
              clear hr hb L22 R22 L23 M23 R23 L24 M24 R24 N24 B22 B23 B24 HIR HSR HIL HSL
              go_wp2_with fail
              refine (qSameRows_any _ _ vs vs2 (lsZ (LF_SayRun st z)) _ _ _ L25.out.f M25.out.f (by rw [L25.out.len, M25.out.len]) (by rw [L25.out.len]; exact HBd.out.1) (fun i => by have := HBd.out.2 i; omega)).mono ?_
              rintro e w26 ⟨rfl, hb⟩
              have HF6 := Lib.hid ((L25.out.keep hb).f)
              have HNV := Lib.hid L25.out.len
              have R26 := Lib.hid (R25.out.keep hb)
              have N26 := Lib.hid (N25.out.keep hb)
              have O26 := Lib.hid (O25.out.keep hb)
              have B26 := Lib.hid (Below.step B25.out B25.out.size hb)
              clear hb L25 M25 R25 N25 O25 B25
              go_wp2_with fail
              refine (qSame_any _ _ (LF_LengthsOfSay st z) _ N26.out.sl O26.out.sl HLe.out).mono ?_
              rintro e w27 ⟨rfl, hb⟩
              have HF7 := Lib.hid (HF6.out.keep hb)
              have R27 := Lib.hid (R26.out.keep hb)
              have N27 := Lib.hid (N26.out.keep hb)
              have B27 := Lib.hid (Below.step B26.out B26.out.size hb)
              clear hb HF6 R26 N26 O26 B26

              clear hr3
              go_wp2
              go_ret
              exact ⟨rfl, B27.out⟩
            | true =>
              rw [hr3] at HIR HSR HIL HSL
              go_wp2_with fail
              refine (HIR.out _ R21.out).mono ?_
              rintro e w22 ⟨u23, vs, rfl, hr, hb⟩
              have L22 := Lib.hid (hr.mono B21.out.size)
              have R22 := Lib.hid (R21.out.keep hb)
              have B22 := Lib.hid (Below.step B21.out B21.out.size hb)
              clear hr hb
              go_wp2_with fail
              refine (HSR.out _ R22.out).mono ?_
              rintro e w23 ⟨u25, vs2, rfl, hr, hb⟩
              have L23 := Lib.hid (L22.out.keep hb)
              have M23 := Lib.hid (hr.mono B22.out.size)
              have R23 := Lib.hid (R22.out.keep hb)
              have B23 := Lib.hid (Below.step B22.out B22.out.size hb)
              clear hr hb
              go_wp2_with fail
              refine (HIL.out _ R23.out).mono ?_
              rintro e w24 ⟨u27, rfl, hr, hb⟩
              have L24 := Lib.hid (L23.out.keep hb)
              have M24 := Lib.hid (M23.out.keep hb)
              have R24 := Lib.hid (R23.out.keep hb)
              have N24 := Lib.hid (hr.mono B23.out.size)
              have B24 := Lib.hid (Below.step B23.out B23.out.size hb)
              clear hr hb
              go_wp2_with fail
              refine (HSL.out _ R24.out).mono ?_
              rintro e w25 ⟨u29, rfl, hr, hb⟩
              have L25 := Lib.hid (L24.out.keep hb)
              have M25 := Lib.hid (M24.out.keep hb)
              have R25 := Lib.hid (R24.out.keep hb)
              have N25 := Lib.hid (N24.out.keep hb)
              have O25 := Lib.hid (hr.mono B24.out.size)
              have B25 := Lib.hid (Below.step B24.out B24.out.size hb)
              clear hr hb L22 R22 L23 M23 R23 L24 M24 R24 N24 B22 B23 B24 HIR HSR HIL HSL
              go_wp2_with fail
              refine (qSameRows_any _ _ vs vs2 (lsZ (LF_SayRun st z)) _ _ _ L25.out.f M25.out.f (by rw [L25.out.len, M25.out.len]) (by rw [L25.out.len]; exact HBd.out.1) (fun i => by have := HBd.out.2 i; omega)).mono ?_
              rintro e w26 ⟨rfl, hb⟩
              have HF6 := Lib.hid ((L25.out.keep hb).f)
              have HNV := Lib.hid L25.out.len
              have R26 := Lib.hid (R25.out.keep hb)
              have N26 := Lib.hid (N25.out.keep hb)
              have O26 := Lib.hid (O25.out.keep hb)
              have B26 := Lib.hid (Below.step B25.out B25.out.size hb)
              clear hb L25 M25 R25 N25 O25 B25
              go_wp2_with fail
              refine (qSame_any _ _ (LF_LengthsOfSay st z) _ N26.out.sl O26.out.sl HLe.out).mono ?_
              rintro e w27 ⟨rfl, hb⟩
              have HF7 := Lib.hid (HF6.out.keep hb)
              have R27 := Lib.hid (R26.out.keep hb)
              have N27 := Lib.hid (N26.out.keep hb)
              have B27 := Lib.hid (Below.step B26.out B26.out.size hb)
              clear hb HF6 R26 N26 O26 B26

              obtain ⟨z0, z1, hzl⟩ := RF.out.len hr3
              have hfst := RF.out.first hr3
              obtain ⟨Z, rfl⟩ : ∃ Z : Nat, z = (Z : Int) := ⟨z.toNat, by omega⟩
              obtain ⟨a23, c23, rfl, ha⟩ := HF7.out.shape
              obtain ⟨N, hN⟩ : ∃ N, N = vs.length := ⟨_, rfl⟩
              have HN := Lib.hid hN
              have HNL := Lib.hid (hN.trans HNV.out)
              have hNZ : N = Z + 1 := by have := HNL.out; omega
              have hZ30 : Z ≤ 30 := by omega
              rcases ha with hx | ⟨gv, rfl⟩
              · have := HN.out; rw [hx] at this; simp at this; omega
              rw [← hN] at HF7 ⊢
              obtain ⟨a27, c27, rfl⟩ := N27.out.lenM (HLn.out.trans HNL.out.symm)
              obtain ⟨x0, hx0⟩ : ∃ x, vs[0]? = some x := ⟨vs[0]'(by rw [← HN.out]; omega), by simp⟩
              have hc0 := HF7.out.cell hx0
              have hR0 := HF7.out.at' 0 x0 hx0
              rw [hfst] at hR0
              have HR0 := Lib.hid hR0
              have hw1 : IntKind.i64.wrap ((Z : Int) + 1) = (N : Int) := by rw [IntWalk.i64_in _ (by omega)]; omega
              have hN0 : 0 < N := by omega
              have hN31 : N ≤ 31 := by omega
              have HF := Lib.hid HF7.out
              obtain ⟨b0, m0, d0, rfl⟩ : ∃ a n c, x0 = .slice a n c := by obtain ⟨a, c, e⟩ := HR0.out.sl.len; exact ⟨a, _, c, e⟩
              have HNZ := Lib.hid hNZ
              clear hr3 z0 z1 hzl hfst hN hx0 hR0 hNZ
              go_wp2_with (go_at_call 11; refine (qSame_any _ _ st _ HR0.out.sl R27.out.sl (by have := HST.out; omega)).mono ?_; rintro e w28 ⟨rfl, hb⟩; have HF8 := Lib.hid (HF.out.keep hb); have N28 := Lib.hid (N27.out.keep hb); have B28 := Lib.hid (Below.step B27.out B27.out.size hb); clear hb)
              clear hc0 HF7 HF N27 R27 HR0 B27
              go_loopw [201] (fun i wr => ∃ k : Nat, k ≤ N ∧ i = .int .i64 (k : Int) ∧ Below w28.heap.size w28 wr) (fun i _ => N - (intOf i).toNat)
              case atStart => exact ⟨0, Nat.zero_le _, rfl, Below.refl _ _⟩
              case round =>
                obtain ⟨k, hk, rfl, hb⟩ := hrel
                have HB := Lib.hid hb
                clear hb
                by_cases hlt : k < N
                · have hltI : (k : Int) < (N : Int) := by omega
                  obtain ⟨zk, hzk⟩ : ∃ x, vs[k]? = some x := ⟨vs[k]'(by rw [← HN.out]; exact hlt), by simp⟩
                  have hck := (HF8.out.keep HB.out).cell hzk
                  have hRk := (HF8.out.keep HB.out).at' k zk hzk
                  obtain ⟨nk, hnk⟩ : ∃ n, (lsZ (LF_SayRun st (Z : Int)) k).length = n := ⟨_, rfl⟩
                  obtain ⟨bk, dk, rfl⟩ := hRk.lenM hnk
                  have HRk := Lib.hid hRk
                  have hle := RF.out.lens k (by rw [← HNL.out]; exact hlt)
                  rw [hnk] at hle
                  obtain ⟨g27, rfl, hc27⟩ := (N28.out.keep HB.out).cellD (j := k) (by rw [HLn.out, ← HNL.out]; exact hlt)
                  rw [hle] at hc27
                  have hsk := RF.out.short k
                  have HSK := Lib.hid hsk
                  clear hzk hRk hle hnk hsk
                  by_cases h0 : 0 < k
                  · have hi0 : (0 : Int) < (k : Int) := by omega
                    obtain ⟨j, hj⟩ : ∃ j, k = j + 1 := ⟨k - 1, by omega⟩
                    have hjN : j < N := by omega
                    have hsd := RF.out.said j (by rw [← HNL.out]; omega)
                    rw [← hj] at hsd
                    obtain ⟨zj, hzj⟩ : ∃ x, vs[j]? = some x := ⟨vs[j]'(by rw [← HN.out]; exact hjN), by simp⟩
                    have hcj := (HF8.out.keep HB.out).cell hzj
                    have hRj := (HF8.out.keep HB.out).at' j zj hzj
                    have hsj := RF.out.short j
                    have HSJ := Lib.hid (impl_SayWord _ _ _ _ hRj (by omega))
                    rw [hsd.1, hsd.2] at HSJ
                    obtain ⟨bj, mj, dj, rfl⟩ : ∃ a n c, zj = .slice a n c := by obtain ⟨a, c, e⟩ := hRj.sl.len; exact ⟨a, _, c, e⟩
                    have ej2 : (k : Int) - 1 = (j : Int) := by omega
                    have ew : IntKind.i64.wrap ((k : Int) - 1) = (j : Int) := by rw [IntWalk.i64_in _ (by omega)]; omega
                    have ew2 : IntKind.i64.wrap (j : Int) = (j : Int) := by rw [IntWalk.i64_in _ (by omega)]
                    have hwk : IntKind.i64.wrap ((k : Int) + 1) = (k : Int) + 1 := by rw [IntWalk.i64_in _ (by omega)]
                    clear hsd hzj hRj hsj hj
                    go_wp2_with (first
                      | (go_at_call 9; refine HSJ.out.mono ?_; rintro e w31 ⟨u33, rfl, hr, hb⟩; have R33 := Lib.hid hr; have HRk2 := Lib.hid (HRk.out.keep hb); have HB31 := Lib.hid (Below.step HB.out HB.out.size hb); clear hr hb)
                      | (go_at_call 11; refine (qSame_any _ _ _ _ R33.out.sl HRk2.out.sl (by have := HSK.out; omega)).mono ?_; rintro e w32 ⟨rfl, hb⟩; have HB32 := Lib.hid (Below.step HB31.out HB31.out.size hb); clear hb))
                    go_roundw
                    case rel => exact ⟨k + 1, by omega, by go_num, HB32.out⟩
                    case measure => simp [intOf]; omega
                  · have hi0 : ¬ (0 : Int) < (k : Int) := by omega
                    have hwk : IntKind.i64.wrap ((k : Int) + 1) = (k : Int) + 1 := by rw [IntWalk.i64_in _ (by omega)]
                    go_wp2
                    go_roundw
                    case rel => exact ⟨k + 1, by omega, by go_num, HB.out⟩
                    case measure => simp [intOf]; omega
                · obtain rfl : k = N := by omega
                  have hltI : ¬ (k : Int) < (k : Int) := by omega
                  go_wp2
                  go_ret
                  exact ⟨rfl, Below.step B28.out B28.out.size HB.out⟩
          | true =>
            rw [hq14] at HIU HSU
            go_wp2_with fail
            refine (HIU.out _ R14b.out).mono ?_
            rintro e w12 ⟨u15, rfl, hr, hb⟩
            have R15 := Lib.hid (hr.mono B11.out.size)
            have R14c := Lib.hid (R14b.out.keep hb)
            have B12 := Lib.hid (Below.step B11.out B11.out.size hb)
            clear hr hb
            go_wp2_with fail
            refine (HSU.out _ R14c.out).mono ?_
            rintro e w13 ⟨u17, rfl, hr, hb⟩
            have R17 := Lib.hid (hr.mono B12.out.size)
            have R15b := Lib.hid (R15.out.keep hb)
            have R14d := Lib.hid (R14c.out.keep hb)
            have B13 := Lib.hid (Below.step B12.out B12.out.size hb)
            clear hr hb
            go_wp2_with fail
            refine (qSame_any _ _ (LF_UnsayWord l14) _ R15b.out.sl R17.out.sl (by have := UF.out.short; omega)).mono ?_
            rintro e w14 ⟨rfl, hb⟩
            have R15c := Lib.hid (R15b.out.keep hb)
            have R14e := Lib.hid (R14d.out.keep hb)
            have B14 := Lib.hid (Below.step B13.out B13.out.size hb)
            clear hb R14b R14c R14d R15 R15b R17 B11 B12 B13 HIU HSU

            obtain ⟨e1, e2⟩ := UF.out.back hq14
            have HA := Lib.hid (impl_SayWord _ (LF_UnsayWord l14) _ w14 R15c.out (by have := UF.out.short; omega))
            rw [e1, e2] at HA
            clear e1 e2 hq14
            go_wp2_with fail
            refine HA.out.mono ?_
            rintro e w15 ⟨u19, rfl, hr, hb⟩
            have R19 := Lib.hid hr
            have R14f := Lib.hid (R14e.out.keep hb)
            have B15 := Lib.hid (Below.step B14.out B14.out.size hb)
            clear hr hb
            go_wp2_with (go_at_call 11; refine (qSame_any _ _ l14 _ R19.out.sl R14f.out.sl (by have := HL14.out; omega)).mono ?_; rintro e w16 ⟨rfl, hb⟩; have B16 := Lib.hid (Below.step B15.out B15.out.size hb); clear hb)
            clear R19 R14f R15c R14e B15 B14 HA
            skip
            refine (draw_SayRun _ xs1 _ (HS1.out.keep B16.out) hl1).mono ?_
            rintro e w21 ⟨u21, st, z, rfl, hst, hr, hb⟩
            have R21 := Lib.hid (hr.mono B16.out.size)
            have B21 := Lib.hid (Below.step B16.out B16.out.size hb)
            have RF := Lib.hid (run_facts st z)
            have HST := Lib.hid (show st.length ≤ 1048576 by omega)
            clear hr hb hst
            obtain ⟨a21, n21, c21, rfl⟩ : ∃ a n c, u21 = .slice a n c := by obtain ⟨a, c, e⟩ := R21.out.sl.len; exact ⟨a, _, c, e⟩
            have HIR := Lib.hid (fun w' (h : Rd w' W.heap.size (.slice a21 n21 c21) st) => impl_SayRun _ st z _ w' h HST.out)
            have HSR := Lib.hid (fun w' (h : Rd w' W.heap.size (.slice a21 n21 c21) st) => spec_SayRun _ st z _ w' h HST.out)
            have HIL := Lib.hid (fun w' (h : Rd w' W.heap.size (.slice a21 n21 c21) st) => impl_LengthsOfSay _ st z _ w' h HST.out)
            have HSL := Lib.hid (fun w' (h : Rd w' W.heap.size (.slice a21 n21 c21) st) => spec_LengthsOfSay _ st z _ w' h HST.out)
            have HOL := Lib.hid (show OK_LengthsOfSay st z = OK_SayRun st z from rfl)
            rw [HOL.out] at HIL HSL
            have HBd := Lib.hid (LF_SayRun_bd st z)
            have HLn := Lib.hid (lens_len st z)
            have HLe := Lib.hid (LF_LengthsOfSay_len st z HST.out)
            cases hr3 : OK_SayRun st z with
            | false =>
              rw [hr3] at HIR HSR HIL HSL
              go_wp2_with fail
              refine (HIR.out _ R21.out).mono ?_
              rintro e w22 ⟨u23, vs, rfl, hr, hb⟩
              have L22 := Lib.hid (hr.mono B21.out.size)
              have R22 := Lib.hid (R21.out.keep hb)
              have B22 := Lib.hid (Below.step B21.out B21.out.size hb)
              clear hr hb
              go_wp2_with fail
              refine (HSR.out _ R22.out).mono ?_
              rintro e w23 ⟨u25, vs2, rfl, hr, hb⟩
              have L23 := Lib.hid (L22.out.keep hb)
              have M23 := Lib.hid (hr.mono B22.out.size)
              have R23 := Lib.hid (R22.out.keep hb)
              have B23 := Lib.hid (Below.step B22.out B22.out.size hb)
              clear hr hb
              go_wp2_with fail
              refine (HIL.out _ R23.out).mono ?_
              rintro e w24 ⟨u27, rfl, hr, hb⟩
              have L24 := Lib.hid (L23.out.keep hb)
              have M24 := Lib.hid (M23.out.keep hb)
              have R24 := Lib.hid (R23.out.keep hb)
              have N24 := Lib.hid (hr.mono B23.out.size)
              have B24 := Lib.hid (Below.step B23.out B23.out.size hb)
              clear hr hb
              go_wp2_with fail
              refine (HSL.out _ R24.out).mono ?_
              rintro e w25 ⟨u29, rfl, hr, hb⟩
              have L25 := Lib.hid (L24.out.keep hb)
              have M25 := Lib.hid (M24.out.keep hb)
              have R25 := Lib.hid (R24.out.keep hb)
              have N25 := Lib.hid (N24.out.keep hb)
              have O25 := Lib.hid (hr.mono B24.out.size)
              have B25 := Lib.hid (Below.step B24.out B24.out.size hb)
              clear hr hb L22 R22 L23 M23 R23 L24 M24 R24 N24 B22 B23 B24 HIR HSR HIL HSL
              go_wp2_with fail
              refine (qSameRows_any _ _ vs vs2 (lsZ (LF_SayRun st z)) _ _ _ L25.out.f M25.out.f (by rw [L25.out.len, M25.out.len]) (by rw [L25.out.len]; exact HBd.out.1) (fun i => by have := HBd.out.2 i; omega)).mono ?_
              rintro e w26 ⟨rfl, hb⟩
              have HF6 := Lib.hid ((L25.out.keep hb).f)
              have HNV := Lib.hid L25.out.len
              have R26 := Lib.hid (R25.out.keep hb)
              have N26 := Lib.hid (N25.out.keep hb)
              have O26 := Lib.hid (O25.out.keep hb)
              have B26 := Lib.hid (Below.step B25.out B25.out.size hb)
              clear hb L25 M25 R25 N25 O25 B25
              go_wp2_with fail
              refine (qSame_any _ _ (LF_LengthsOfSay st z) _ N26.out.sl O26.out.sl HLe.out).mono ?_
              rintro e w27 ⟨rfl, hb⟩
              have HF7 := Lib.hid (HF6.out.keep hb)
              have R27 := Lib.hid (R26.out.keep hb)
              have N27 := Lib.hid (N26.out.keep hb)
              have B27 := Lib.hid (Below.step B26.out B26.out.size hb)
              clear hb HF6 R26 N26 O26 B26

              clear hr3
              go_wp2
              go_ret
              exact ⟨rfl, B27.out⟩
            | true =>
              rw [hr3] at HIR HSR HIL HSL
              go_wp2_with fail
              refine (HIR.out _ R21.out).mono ?_
              rintro e w22 ⟨u23, vs, rfl, hr, hb⟩
              have L22 := Lib.hid (hr.mono B21.out.size)
              have R22 := Lib.hid (R21.out.keep hb)
              have B22 := Lib.hid (Below.step B21.out B21.out.size hb)
              clear hr hb
              go_wp2_with fail
              refine (HSR.out _ R22.out).mono ?_
              rintro e w23 ⟨u25, vs2, rfl, hr, hb⟩
              have L23 := Lib.hid (L22.out.keep hb)
              have M23 := Lib.hid (hr.mono B22.out.size)
              have R23 := Lib.hid (R22.out.keep hb)
              have B23 := Lib.hid (Below.step B22.out B22.out.size hb)
              clear hr hb
              go_wp2_with fail
              refine (HIL.out _ R23.out).mono ?_
              rintro e w24 ⟨u27, rfl, hr, hb⟩
              have L24 := Lib.hid (L23.out.keep hb)
              have M24 := Lib.hid (M23.out.keep hb)
              have R24 := Lib.hid (R23.out.keep hb)
              have N24 := Lib.hid (hr.mono B23.out.size)
              have B24 := Lib.hid (Below.step B23.out B23.out.size hb)
              clear hr hb
              go_wp2_with fail
              refine (HSL.out _ R24.out).mono ?_
              rintro e w25 ⟨u29, rfl, hr, hb⟩
              have L25 := Lib.hid (L24.out.keep hb)
              have M25 := Lib.hid (M24.out.keep hb)
              have R25 := Lib.hid (R24.out.keep hb)
              have N25 := Lib.hid (N24.out.keep hb)
              have O25 := Lib.hid (hr.mono B24.out.size)
              have B25 := Lib.hid (Below.step B24.out B24.out.size hb)
              clear hr hb L22 R22 L23 M23 R23 L24 M24 R24 N24 B22 B23 B24 HIR HSR HIL HSL
              go_wp2_with fail
              refine (qSameRows_any _ _ vs vs2 (lsZ (LF_SayRun st z)) _ _ _ L25.out.f M25.out.f (by rw [L25.out.len, M25.out.len]) (by rw [L25.out.len]; exact HBd.out.1) (fun i => by have := HBd.out.2 i; omega)).mono ?_
              rintro e w26 ⟨rfl, hb⟩
              have HF6 := Lib.hid ((L25.out.keep hb).f)
              have HNV := Lib.hid L25.out.len
              have R26 := Lib.hid (R25.out.keep hb)
              have N26 := Lib.hid (N25.out.keep hb)
              have O26 := Lib.hid (O25.out.keep hb)
              have B26 := Lib.hid (Below.step B25.out B25.out.size hb)
              clear hb L25 M25 R25 N25 O25 B25
              go_wp2_with fail
              refine (qSame_any _ _ (LF_LengthsOfSay st z) _ N26.out.sl O26.out.sl HLe.out).mono ?_
              rintro e w27 ⟨rfl, hb⟩
              have HF7 := Lib.hid (HF6.out.keep hb)
              have R27 := Lib.hid (R26.out.keep hb)
              have N27 := Lib.hid (N26.out.keep hb)
              have B27 := Lib.hid (Below.step B26.out B26.out.size hb)
              clear hb HF6 R26 N26 O26 B26

              obtain ⟨z0, z1, hzl⟩ := RF.out.len hr3
              have hfst := RF.out.first hr3
              obtain ⟨Z, rfl⟩ : ∃ Z : Nat, z = (Z : Int) := ⟨z.toNat, by omega⟩
              obtain ⟨a23, c23, rfl, ha⟩ := HF7.out.shape
              obtain ⟨N, hN⟩ : ∃ N, N = vs.length := ⟨_, rfl⟩
              have HN := Lib.hid hN
              have HNL := Lib.hid (hN.trans HNV.out)
              have hNZ : N = Z + 1 := by have := HNL.out; omega
              have hZ30 : Z ≤ 30 := by omega
              rcases ha with hx | ⟨gv, rfl⟩
              · have := HN.out; rw [hx] at this; simp at this; omega
              rw [← hN] at HF7 ⊢
              obtain ⟨a27, c27, rfl⟩ := N27.out.lenM (HLn.out.trans HNL.out.symm)
              obtain ⟨x0, hx0⟩ : ∃ x, vs[0]? = some x := ⟨vs[0]'(by rw [← HN.out]; omega), by simp⟩
              have hc0 := HF7.out.cell hx0
              have hR0 := HF7.out.at' 0 x0 hx0
              rw [hfst] at hR0
              have HR0 := Lib.hid hR0
              have hw1 : IntKind.i64.wrap ((Z : Int) + 1) = (N : Int) := by rw [IntWalk.i64_in _ (by omega)]; omega
              have hN0 : 0 < N := by omega
              have hN31 : N ≤ 31 := by omega
              have HF := Lib.hid HF7.out
              obtain ⟨b0, m0, d0, rfl⟩ : ∃ a n c, x0 = .slice a n c := by obtain ⟨a, c, e⟩ := HR0.out.sl.len; exact ⟨a, _, c, e⟩
              have HNZ := Lib.hid hNZ
              clear hr3 z0 z1 hzl hfst hN hx0 hR0 hNZ
              go_wp2_with (go_at_call 11; refine (qSame_any _ _ st _ HR0.out.sl R27.out.sl (by have := HST.out; omega)).mono ?_; rintro e w28 ⟨rfl, hb⟩; have HF8 := Lib.hid (HF.out.keep hb); have N28 := Lib.hid (N27.out.keep hb); have B28 := Lib.hid (Below.step B27.out B27.out.size hb); clear hb)
              clear hc0 HF7 HF N27 R27 HR0 B27
              go_loopw [201] (fun i wr => ∃ k : Nat, k ≤ N ∧ i = .int .i64 (k : Int) ∧ Below w28.heap.size w28 wr) (fun i _ => N - (intOf i).toNat)
              case atStart => exact ⟨0, Nat.zero_le _, rfl, Below.refl _ _⟩
              case round =>
                obtain ⟨k, hk, rfl, hb⟩ := hrel
                have HB := Lib.hid hb
                clear hb
                by_cases hlt : k < N
                · have hltI : (k : Int) < (N : Int) := by omega
                  obtain ⟨zk, hzk⟩ : ∃ x, vs[k]? = some x := ⟨vs[k]'(by rw [← HN.out]; exact hlt), by simp⟩
                  have hck := (HF8.out.keep HB.out).cell hzk
                  have hRk := (HF8.out.keep HB.out).at' k zk hzk
                  obtain ⟨nk, hnk⟩ : ∃ n, (lsZ (LF_SayRun st (Z : Int)) k).length = n := ⟨_, rfl⟩
                  obtain ⟨bk, dk, rfl⟩ := hRk.lenM hnk
                  have HRk := Lib.hid hRk
                  have hle := RF.out.lens k (by rw [← HNL.out]; exact hlt)
                  rw [hnk] at hle
                  obtain ⟨g27, rfl, hc27⟩ := (N28.out.keep HB.out).cellD (j := k) (by rw [HLn.out, ← HNL.out]; exact hlt)
                  rw [hle] at hc27
                  have hsk := RF.out.short k
                  have HSK := Lib.hid hsk
                  clear hzk hRk hle hnk hsk
                  by_cases h0 : 0 < k
                  · have hi0 : (0 : Int) < (k : Int) := by omega
                    obtain ⟨j, hj⟩ : ∃ j, k = j + 1 := ⟨k - 1, by omega⟩
                    have hjN : j < N := by omega
                    have hsd := RF.out.said j (by rw [← HNL.out]; omega)
                    rw [← hj] at hsd
                    obtain ⟨zj, hzj⟩ : ∃ x, vs[j]? = some x := ⟨vs[j]'(by rw [← HN.out]; exact hjN), by simp⟩
                    have hcj := (HF8.out.keep HB.out).cell hzj
                    have hRj := (HF8.out.keep HB.out).at' j zj hzj
                    have hsj := RF.out.short j
                    have HSJ := Lib.hid (impl_SayWord _ _ _ _ hRj (by omega))
                    rw [hsd.1, hsd.2] at HSJ
                    obtain ⟨bj, mj, dj, rfl⟩ : ∃ a n c, zj = .slice a n c := by obtain ⟨a, c, e⟩ := hRj.sl.len; exact ⟨a, _, c, e⟩
                    have ej2 : (k : Int) - 1 = (j : Int) := by omega
                    have ew : IntKind.i64.wrap ((k : Int) - 1) = (j : Int) := by rw [IntWalk.i64_in _ (by omega)]; omega
                    have ew2 : IntKind.i64.wrap (j : Int) = (j : Int) := by rw [IntWalk.i64_in _ (by omega)]
                    have hwk : IntKind.i64.wrap ((k : Int) + 1) = (k : Int) + 1 := by rw [IntWalk.i64_in _ (by omega)]
                    clear hsd hzj hRj hsj hj
                    go_wp2_with (first
                      | (go_at_call 9; refine HSJ.out.mono ?_; rintro e w31 ⟨u33, rfl, hr, hb⟩; have R33 := Lib.hid hr; have HRk2 := Lib.hid (HRk.out.keep hb); have HB31 := Lib.hid (Below.step HB.out HB.out.size hb); clear hr hb)
                      | (go_at_call 11; refine (qSame_any _ _ _ _ R33.out.sl HRk2.out.sl (by have := HSK.out; omega)).mono ?_; rintro e w32 ⟨rfl, hb⟩; have HB32 := Lib.hid (Below.step HB31.out HB31.out.size hb); clear hb))
                    go_roundw
                    case rel => exact ⟨k + 1, by omega, by go_num, HB32.out⟩
                    case measure => simp [intOf]; omega
                  · have hi0 : ¬ (0 : Int) < (k : Int) := by omega
                    have hwk : IntKind.i64.wrap ((k : Int) + 1) = (k : Int) + 1 := by rw [IntWalk.i64_in _ (by omega)]
                    go_wp2
                    go_roundw
                    case rel => exact ⟨k + 1, by omega, by go_num, HB.out⟩
                    case measure => simp [intOf]; omega
                · obtain rfl : k = N := by omega
                  have hltI : ¬ (k : Int) < (k : Int) := by omega
                  go_wp2
                  go_ret
                  exact ⟨rfl, Below.step B28.out B28.out.size HB.out⟩

end Go.Proofs.Ytmdjmbmkgboeaaa
