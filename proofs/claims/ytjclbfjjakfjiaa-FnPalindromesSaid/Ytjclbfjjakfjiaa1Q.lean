/-
  The law of palindromes (written by wip/tools/gen_1q.py).
-/
import Derived.Test.Ytjclbfjjakfjiaa1P
import Derived.Test.Ytjclbfjjakfjiaa0D
import Derived.Test.Ytjclbfjjakfjiaa0G
import Derived.Test.YtjclbfjjakfjiaaZE
import Derived.Test.YtjclbfjjakfjiaaP
import Derived.Test.YtjclbfjjakfjiaaG
namespace Go.Proofs.Ytjclbfjjakfjiaa
open Go.RowKit
set_option linter.unusedVariables false
set_option linter.unusedSimpArgs false
set_option maxRecDepth 100000

theorem draw_IsPalindrome (v : Value) (xs : List Int) (w : World) (h : Sb w v xs) (hs : xs.length ≤ 1048576) :
    Calls Try.prog 14 #[v] w fun e w' => ∃ z y : Int, e = .returned (.tuple #[.int .i64 z, .int .i64 y]) ∧ Below w.heap.size w w' := by
  have HC := Lib.hid (Cu.start h hs)
  obtain ⟨a, cap, rfl⟩ := h.len
  have HB := Lib.hid (alloc_below w (.cells #[.slice a xs.length cap, .int .i64 0, .int .u64 0] 49))
  clear h
  go_enter Try.func14, Try.ntmps14
  go_wp2_with fail
  refine (numberD_any w.heap.size _ xs _ _ HC.out (by omega)).mono ?_
  rintro e w1 ⟨z, rfl, hc, hg⟩
  have C1 := Lib.hid hc
  have HB1 := Lib.hid (HB.out.trans (grown_below hg (by simp) (Nat.le_refl _)))
  clear hc hg
  go_wp2_with fail
  refine (base_any w.heap.size _ xs _ _ C1.out (by omega)).mono ?_
  rintro e w2 ⟨y, rfl, hc, hg⟩
  have C2 := Lib.hid hc
  have HB2 := Lib.hid (HB1.out.trans (grown_below hg HB1.out.size (Nat.le_refl _)))
  clear hc hg
  go_wp2_with fail
  refine (dgAsked_any _ _ _).mono ?_
  rintro e w2' ⟨rfl, rfl⟩
  by_cases hq : Num z ∧ Bas y
  · rw [decide_eq_true hq]
    obtain ⟨⟨z0, z1⟩, y0, y1⟩ := hq
    go_wp2_with fail
    refine (one_any w.heap.size _ xs _ 2 _ C2.out (by omega) (by omega) (by omega)).mono ?_
    rintro e w3 ⟨q, rfl, hc, hg⟩
    have HB3 := Lib.hid (HB2.out.trans (grown_below hg HB2.out.size (Nat.le_refl _)))
    clear hc hg
    cases q
    · go_wp2
      go_ret2
      exact ⟨z, y, rfl, HB3.out⟩
    · have HD := Lib.hid (dgOf_s z y w3 z0 z1 y0 y1)
      have HL := Lib.hid (dgs_len40 y z y0 z0 z1)
      have HP := Lib.hid (dgs_pos y z)
      have HA := Lib.hid (dgs_all y z y0 z0)
      obtain ⟨D, hD⟩ : ∃ D, D = dgs y z := ⟨_, rfl⟩
      rw [← hD] at HD HL HP HA
      clear hD
      go_wp2_with fail
      refine HD.out.mono ?_
      rintro e w4 ⟨g4, c4, rfl, hr, hb⟩
      have R4 := Lib.hid hr
      have HB4 := Lib.hid (HB3.out.trans (hb.mono HB3.out.size))
      clear hr hb HD
      go_wp2_with fail
      refine (dgMirrored_any _ D _ _ R4.out HP.out (by have := HL.out; omega)).mono ?_
      rintro e w5 ⟨g5, c5, rfl, hr, hb⟩
      have R5 := Lib.hid hr
      have HB5 := Lib.hid (HB4.out.trans (hb.mono HB4.out.size))
      clear hr hb
      have HF := Lib.hid (dgFrom_any _ (mir D) y _ w5 R5.out (fun x hx => by have := HA.out x (mir_mem hx); omega) y0 y1 (by rw [mir_len]; have := HL.out; omega))
      obtain ⟨r, hr⟩ : ∃ r, r = numF y (mir D) 0 := ⟨_, rfl⟩
      rw [← hr] at HF
      clear hr
      cases r with
      | none =>
        simp only [optRes] at HF
        go_wp2_with fail
        refine HF.out.mono ?_
        rintro e w6 ⟨rfl, rfl⟩
        go_wp2
        go_ret2
        exact ⟨z, y, rfl, HB5.out⟩
      | some m =>
        simp only [optRes] at HF
        go_wp2_with fail
        refine HF.out.mono ?_
        rintro e w6 ⟨rfl, rfl⟩
        go_wp2
        go_ret2
        exact ⟨m, y, rfl, HB5.out⟩
  · rw [decide_eq_false hq]
    clear hq
    go_wp2
    go_ret2
    exact ⟨z, y, rfl, HB2.out⟩
theorem draw_NextPalindrome (v : Value) (xs : List Int) (w : World) (h : Sb w v xs) (hs : xs.length ≤ 1048576) :
    Calls Try.prog 5 #[v] w fun e w' => ∃ z y : Int, e = .returned (.tuple #[.int .i64 z, .int .i64 y]) ∧ Below w.heap.size w w' := by
  have HD := Lib.hid (draw_IsPalindrome v xs w h hs)
  clear h
  go_enter Try.func5, Try.ntmps5
  go_wp2_with fail
  refine HD.out.mono ?_
  rintro e w1 ⟨z, y, rfl, hb⟩
  have HB := Lib.hid hb
  clear hb
  go_wp2
  go_ret2
  exact ⟨_, _, rfl, HB.out⟩
theorem draw_ReverseNumber (v : Value) (xs : List Int) (w : World) (h : Sb w v xs) (hs : xs.length ≤ 1048576) :
    Calls Try.prog 10 #[v] w fun e w' => ∃ z y : Int, e = .returned (.tuple #[.int .i64 z, .int .i64 y]) ∧ Below w.heap.size w w' := by
  have HD := Lib.hid (draw_DigitsOf v xs w h hs)
  clear h
  go_enter Try.func10, Try.ntmps10
  go_wp2_with fail
  refine HD.out.mono ?_
  rintro e w1 ⟨z, y, rfl, hb⟩
  have HB := Lib.hid hb
  clear hb
  go_wp2
  go_ret2
  exact ⟨_, _, rfl, HB.out⟩

theorem rpal_iff {n b : Int} (hN : Num n) (hB : Bas b) : RPal n b = decide (dgs b n = (dgs b n).reverse) := by
  unfold RPal palB
  rw [okq_yes ⟨hN, hB⟩]
  rfl
/-- What the law asks of the next palindrome. -/
theorem next_facts {n b r : Int} (hN : Num n) (hB : Bas b) (h : RNextPalindrome b n = some r) : n < r ∧ Num r ∧ RPal r b = true ∧ ∀ k : Int, n < k → k < r → RPal k b = false ∧ okq k b = true := by
  obtain ⟨h1, h2, h3, h4⟩ := next_least hB.1 hN.1 h
  have hR : Num r := ⟨by have := hN.1; omega, h2⟩
  refine ⟨h1, hR, by rw [rpal_iff hR hB]; exact decide_eq_true h3, fun k k0 k1 => ?_⟩
  have hK : Num k := ⟨by have := hN.1; omega, by omega⟩
  refine ⟨?_, okq_yes ⟨hK, hB⟩⟩
  rw [rpal_iff hK hB]
  refine decide_eq_false (fun hp => ?_)
  have := h4 k k0 hK.2 hp
  omega
theorem twice_facts {m b k : Int} (hN : Num m) (hB : Bas b) (hz : m % b ≠ 0) (h : RReverseNumber b m = some k) :
    Num k ∧ RReverseNumber b k = some m ∧ (dgs b k).sum = (dgs b m).sum ∧ (k == m) = RPal m b := by
  obtain ⟨h1, h2, h3, h4, h5, h6⟩ := turned_twice hB.1 hN.1 hN.2 hz h
  refine ⟨⟨h2, h3⟩, h4, h5, ?_⟩
  rw [rpal_iff hN hB]
  by_cases e : k = m
  · rw [beq_yes e, decide_eq_true (h6.2 e)]
  · rw [beq_no e, decide_eq_false (fun hp => e (h6.1 hp))]

set_option maxHeartbeats 20000000 in
theorem law_Palindromes {W : World} (v0 : Value) (xs0 : List Int) (hs0 : Sb W v0 xs0) (v1 : Value) (xs1 : List Int) (hs1 : Sb W v1 xs1) :
    Calls Try.prog 3 #[v0, v1] W fun e w' => e = .returned (.bool true) ∧ Below W.heap.size W w' := by
  obtain ⟨a0, k0, rfl⟩ := hs0.len
  obtain ⟨a1, k1, rfl⟩ := hs1.len
  have HS0 := Lib.hid hs0
  have HS1 := Lib.hid hs1
  have HB := Lib.hid (big_any a0 a1 xs0.length xs1.length k0 k1 W)
  clear hs0 hs1
  by_cases hbig : 1048576 < xs0.length ∨ 1048576 < xs0.length + xs1.length
  · rw [decide_eq_true hbig] at HB
    go_enter Try.func3, Try.ntmps3
    go_wp2_with (go_at_call 4; refine HB.out.mono ?_; rintro e w ⟨rfl, rfl⟩)
    go_ret
    exact ⟨rfl, Below.refl _ _⟩
  rw [decide_eq_false hbig] at HB
  have hl0 : xs0.length ≤ 1048576 := by omega
  have hl1 : xs1.length ≤ 1048576 := by omega
  have HL1 := Lib.hid hl1
  clear hbig
  go_enter Try.func3, Try.ntmps3
  go_wp2_with fail
  refine HB.out.mono ?_
  rintro e w ⟨rfl, rfl⟩
  go_wp2_with fail
  refine (draw_NextPalindrome _ xs0 _ HS0.out hl0).mono ?_
  rintro e w1 ⟨n, b, rfl, hb⟩
  have BE1 := Lib.hid hb
  clear hb hl0 hl1
  have HI1 := Lib.hid (fun w => impl_NextPalindrome n b w)
  have HT1 := Lib.hid (fun w => spec_NextPalindrome n b w)
  have HI2 := Lib.hid (fun w => impl_IsPalindrome n b w)
  have HT2 := Lib.hid (fun w => spec_IsPalindrome n b w)
  by_cases hq : Num n ∧ Bas b
  · skip
    have e1 : askF RNextPalindrome n b = RNextPalindrome b n := if_pos hq
    rw [e1] at HI1 HT1
    rw [okq_yes hq] at HI2 HT2
    have HNX := Lib.hid (fun r (h : RNextPalindrome b n = some r) => next_facts hq.1 hq.2 h)
    have HQ := Lib.hid hq
    obtain ⟨pv, hpv⟩ : ∃ pv, pv = RPal n b := ⟨_, rfl⟩
    rw [← hpv] at HI2 HT2
    obtain ⟨rr, hrr⟩ : ∃ rr, rr = RNextPalindrome b n := ⟨_, rfl⟩
    rw [← hrr] at HI1 HT1 HNX
    obtain ⟨⟨n0, n1⟩, hb0, hb1⟩ := hq
    clear e1 hpv hrr
    cases rr with
    | none =>
      simp only [optRes] at HI1 HT1
      go_wp2_with fail
      refine (HI1.out _).mono ?_
      rintro e w2 ⟨rfl, hb⟩
      have BE2 := Lib.hid (BE1.out.trans (hb.mono BE1.out.size))
      clear hb
      go_wp2_with fail
      refine (HT1.out _).mono ?_
      rintro e w3 ⟨rfl, hb⟩
      have BE3 := Lib.hid (BE2.out.trans (hb.mono BE2.out.size))
      clear hb
      go_wp2_with fail
      refine (HI2.out _).mono ?_
      rintro e w4 ⟨rfl, hb⟩
      have BE4 := Lib.hid (BE3.out.trans (hb.mono BE3.out.size))
      clear hb
      go_wp2_with fail
      refine (HT2.out _).mono ?_
      rintro e w5 ⟨rfl, hb⟩
      have BE5 := Lib.hid (BE4.out.trans (hb.mono BE4.out.size))
      clear hb
      as_aux_lemma =>
        go_wp2_with fail
        refine (draw_ReverseNumber _ xs1 _ (HS1.out.keep BE5.out) HL1.out).mono ?_
        rintro e y1 ⟨m, c, rfl, hb⟩
        have BE6 := Lib.hid (BE5.out.trans (hb.mono BE5.out.size))
        clear hb
        have HRI := Lib.hid (fun w => impl_ReverseNumber m c w)
        have HRS := Lib.hid (fun w => spec_ReverseNumber m c w)
        by_cases hq2 : Num m ∧ Bas c
        · skip
          have e1 : askF RReverseNumber m c = RReverseNumber c m := if_pos hq2
          rw [e1] at HRI HRS
          have HTW := Lib.hid (fun k (hz : m % c ≠ 0) (h : RReverseNumber c m = some k) => twice_facts hq2.1 hq2.2 hz h)
          have HQ2 := Lib.hid hq2
          obtain ⟨rk, hrk⟩ : ∃ rk, rk = RReverseNumber c m := ⟨_, rfl⟩
          rw [← hrk] at HRI HRS HTW
          obtain ⟨⟨m0, m1⟩, c0, c1⟩ := hq2
          clear hrk e1
          cases rk with
          | none =>
            simp only [optRes] at HRI HRS
            go_wp2_with fail
            refine (HRI.out _).mono ?_
            rintro e w7 ⟨rfl, hb⟩
            have BE7 := Lib.hid (BE6.out.trans (hb.mono BE6.out.size))
            clear hb
            go_wp2_with fail
            refine (HRS.out _).mono ?_
            rintro e w8 ⟨rfl, hb⟩
            have BE8 := Lib.hid (BE7.out.trans (hb.mono BE7.out.size))
            clear hb
            go_wp2
            go_ret
            exact ⟨rfl, BE8.out⟩
          | some k =>
            simp only [optRes] at HRI HRS
            go_wp2_with fail
            refine (HRI.out _).mono ?_
            rintro e w7 ⟨rfl, hb⟩
            have BE7 := Lib.hid (BE6.out.trans (hb.mono BE6.out.size))
            clear hb
            go_wp2_with fail
            refine (HRS.out _).mono ?_
            rintro e w8 ⟨rfl, hb⟩
            have BE8 := Lib.hid (BE7.out.trans (hb.mono BE7.out.size))
            clear hb
            have hc0 : ¬ c = 0 := by omega
            have t1 : m.tmod c = m % c := Int.tmod_eq_emod_of_nonneg m0
            by_cases hz : m % c = 0
            · have t2 : (m % c != 0) = false := by rw [hz]; rfl
              clear hz
              go_wp2
              go_ret
              exact ⟨rfl, BE8.out⟩
            · have t2 : (m % c != 0) = true := by simp [hz]
              obtain ⟨q1, q2, q3, q4⟩ := HTW.out k hz rfl
              have HA1 := Lib.hid (fun w => impl_ReverseNumber k c w)
              have a1 : askF RReverseNumber k c = some m := by unfold askF; rw [if_pos ⟨q1, HQ2.out.2⟩]; exact q2
              rw [a1] at HA1
              have HA2 := Lib.hid (fun w => impl_DigitSum k c w)
              have a2 : askI RDigitSum k c = some (dgs c m).sum := by unfold askI; rw [if_pos ⟨q1, HQ2.out.2⟩]; exact congrArg some q3
              rw [a2] at HA2
              have HA3 := Lib.hid (fun w => impl_DigitSum m c w)
              have a3 : askI RDigitSum m c = some (dgs c m).sum := if_pos HQ2.out
              rw [a3] at HA3
              have HA4 := Lib.hid (fun w => impl_IsPalindrome m c w)
              rw [okq_yes HQ2.out] at HA4
              obtain ⟨yv, hyv⟩ : ∃ yv, yv = RPal m c := ⟨_, rfl⟩
              rw [← hyv] at HA4 q4
              obtain ⟨sv, hsv⟩ : ∃ sv, sv = (dgs c m).sum := ⟨_, rfl⟩
              rw [← hsv] at HA2 HA3
              simp only [optRes] at HA1 HA2 HA3
              clear q1 q2 q3 a1 a2 a3 hyv hsv hz
              go_wp2_with fail
              refine (HA1.out _).mono ?_
              rintro e w9 ⟨rfl, hb⟩
              have BE9 := Lib.hid (BE8.out.trans (hb.mono BE8.out.size))
              clear hb
              go_wp2_with fail
              refine (HA2.out _).mono ?_
              rintro e w10 ⟨rfl, hb⟩
              have BE10 := Lib.hid (BE9.out.trans (hb.mono BE9.out.size))
              clear hb
              go_wp2_with fail
              refine (HA3.out _).mono ?_
              rintro e w11 ⟨rfl, hb⟩
              have BE11 := Lib.hid (BE10.out.trans (hb.mono BE10.out.size))
              clear hb
              go_wp2_with fail
              refine (HA4.out _).mono ?_
              rintro e w12 ⟨rfl, hb⟩
              have BE12 := Lib.hid (BE11.out.trans (hb.mono BE11.out.size))
              clear hb
              go_wp2
              go_ret
              exact ⟨rfl, BE12.out⟩
        · skip
          have e1 : askF RReverseNumber m c = none := if_neg hq2
          rw [e1] at HRI HRS
          simp only [optRes] at HRI HRS
          clear hq2 e1
          go_wp2_with fail
          refine (HRI.out _).mono ?_
          rintro e w7 ⟨rfl, hb⟩
          have BE7 := Lib.hid (BE6.out.trans (hb.mono BE6.out.size))
          clear hb
          go_wp2_with fail
          refine (HRS.out _).mono ?_
          rintro e w8 ⟨rfl, hb⟩
          have BE8 := Lib.hid (BE7.out.trans (hb.mono BE7.out.size))
          clear hb
          go_wp2
          go_ret
          exact ⟨rfl, BE8.out⟩
    | some r =>
      simp only [optRes] at HI1 HT1
      go_wp2_with fail
      refine (HI1.out _).mono ?_
      rintro e w2 ⟨rfl, hb⟩
      have BE2 := Lib.hid (BE1.out.trans (hb.mono BE1.out.size))
      clear hb
      go_wp2_with fail
      refine (HT1.out _).mono ?_
      rintro e w3 ⟨rfl, hb⟩
      have BE3 := Lib.hid (BE2.out.trans (hb.mono BE2.out.size))
      clear hb
      go_wp2_with fail
      refine (HI2.out _).mono ?_
      rintro e w4 ⟨rfl, hb⟩
      have BE4 := Lib.hid (BE3.out.trans (hb.mono BE3.out.size))
      clear hb
      go_wp2_with fail
      refine (HT2.out _).mono ?_
      rintro e w5 ⟨rfl, hb⟩
      have BE5 := Lib.hid (BE4.out.trans (hb.mono BE4.out.size))
      clear hb
      obtain ⟨hnr, hNr, hPr, hbt⟩ := HNX.out r rfl
      have HP := Lib.hid (fun w => impl_IsPalindrome r b w)
      rw [hPr, okq_yes ⟨hNr, HQ.out.2⟩] at HP
      have HK := Lib.hid (fun (k : Int) (w : World) => impl_IsPalindrome k b w)
      have HBT := Lib.hid hbt
      obtain ⟨r0, r1⟩ := hNr
      have hrn : ¬ r ≤ n := by omega
      clear hPr hbt
      go_wp2_with fail
      refine (HP.out _).mono ?_
      rintro e w6 ⟨rfl, hb⟩
      have BE6 := Lib.hid (BE5.out.trans (hb.mono BE5.out.size))
      clear hb
      go_wp2
      go_loopw [17] (fun i wr => ∃ k : Int, n < k ∧ k ≤ r ∧ i = .int .i64 k ∧ Below W.heap.size W wr) (fun i _ => (r - intOf i).toNat)
      case atStart => exact ⟨n + 1, by omega, by omega, by go_num, BE6.out⟩
      case round =>
        obtain ⟨k, kn, km, rfl, hb⟩ := hrel
        have BE20 := Lib.hid hb
        clear hb
        by_cases hlt : k < r ∧ k < n + 40
        · obtain ⟨hlt1, hlt2⟩ := hlt
          have HKK := Lib.hid (HK.out k)
          rw [(HBT.out k kn hlt1).1, (HBT.out k kn hlt1).2] at HKK
          go_wp2_with fail
          refine (HKK.out _).mono ?_
          rintro e w21 ⟨rfl, hb⟩
          have BE21 := Lib.hid (BE20.out.trans (hb.mono BE20.out.size))
          clear hb
          go_wp2
          go_roundw
          case rel => exact ⟨k + 1, by omega, by omega, by go_num, BE21.out⟩
          case measure => simp [intOf]; omega
        · by_cases hlt1 : k < r
          · have hlt2 : ¬ k < n + 40 := fun h => hlt ⟨hlt1, h⟩
            clear hlt
            as_aux_lemma =>
              go_wp2_with fail
              refine (draw_ReverseNumber _ xs1 _ (HS1.out.keep BE20.out) HL1.out).mono ?_
              rintro e y1 ⟨m, c, rfl, hb⟩
              have BE21 := Lib.hid (BE20.out.trans (hb.mono BE20.out.size))
              clear hb
              have HRI := Lib.hid (fun w => impl_ReverseNumber m c w)
              have HRS := Lib.hid (fun w => spec_ReverseNumber m c w)
              by_cases hq2 : Num m ∧ Bas c
              · skip
                have e1 : askF RReverseNumber m c = RReverseNumber c m := if_pos hq2
                rw [e1] at HRI HRS
                have HTW := Lib.hid (fun k (hz : m % c ≠ 0) (h : RReverseNumber c m = some k) => twice_facts hq2.1 hq2.2 hz h)
                have HQ2 := Lib.hid hq2
                obtain ⟨rk, hrk⟩ : ∃ rk, rk = RReverseNumber c m := ⟨_, rfl⟩
                rw [← hrk] at HRI HRS HTW
                obtain ⟨⟨m0, m1⟩, c0, c1⟩ := hq2
                clear hrk e1
                cases rk with
                | none =>
                  simp only [optRes] at HRI HRS
                  go_wp2_with fail
                  refine (HRI.out _).mono ?_
                  rintro e w22 ⟨rfl, hb⟩
                  have BE22 := Lib.hid (BE21.out.trans (hb.mono BE21.out.size))
                  clear hb
                  go_wp2_with fail
                  refine (HRS.out _).mono ?_
                  rintro e w23 ⟨rfl, hb⟩
                  have BE23 := Lib.hid (BE22.out.trans (hb.mono BE22.out.size))
                  clear hb
                  go_wp2
                  go_ret
                  exact ⟨rfl, BE23.out⟩
                | some k =>
                  simp only [optRes] at HRI HRS
                  go_wp2_with fail
                  refine (HRI.out _).mono ?_
                  rintro e w22 ⟨rfl, hb⟩
                  have BE22 := Lib.hid (BE21.out.trans (hb.mono BE21.out.size))
                  clear hb
                  go_wp2_with fail
                  refine (HRS.out _).mono ?_
                  rintro e w23 ⟨rfl, hb⟩
                  have BE23 := Lib.hid (BE22.out.trans (hb.mono BE22.out.size))
                  clear hb
                  have hc0 : ¬ c = 0 := by omega
                  have t1 : m.tmod c = m % c := Int.tmod_eq_emod_of_nonneg m0
                  by_cases hz : m % c = 0
                  · have t2 : (m % c != 0) = false := by rw [hz]; rfl
                    clear hz
                    go_wp2
                    go_ret
                    exact ⟨rfl, BE23.out⟩
                  · have t2 : (m % c != 0) = true := by simp [hz]
                    obtain ⟨q1, q2, q3, q4⟩ := HTW.out k hz rfl
                    have HA1 := Lib.hid (fun w => impl_ReverseNumber k c w)
                    have a1 : askF RReverseNumber k c = some m := by unfold askF; rw [if_pos ⟨q1, HQ2.out.2⟩]; exact q2
                    rw [a1] at HA1
                    have HA2 := Lib.hid (fun w => impl_DigitSum k c w)
                    have a2 : askI RDigitSum k c = some (dgs c m).sum := by unfold askI; rw [if_pos ⟨q1, HQ2.out.2⟩]; exact congrArg some q3
                    rw [a2] at HA2
                    have HA3 := Lib.hid (fun w => impl_DigitSum m c w)
                    have a3 : askI RDigitSum m c = some (dgs c m).sum := if_pos HQ2.out
                    rw [a3] at HA3
                    have HA4 := Lib.hid (fun w => impl_IsPalindrome m c w)
                    rw [okq_yes HQ2.out] at HA4
                    obtain ⟨yv, hyv⟩ : ∃ yv, yv = RPal m c := ⟨_, rfl⟩
                    rw [← hyv] at HA4 q4
                    obtain ⟨sv, hsv⟩ : ∃ sv, sv = (dgs c m).sum := ⟨_, rfl⟩
                    rw [← hsv] at HA2 HA3
                    simp only [optRes] at HA1 HA2 HA3
                    clear q1 q2 q3 a1 a2 a3 hyv hsv hz
                    go_wp2_with fail
                    refine (HA1.out _).mono ?_
                    rintro e w24 ⟨rfl, hb⟩
                    have BE24 := Lib.hid (BE23.out.trans (hb.mono BE23.out.size))
                    clear hb
                    go_wp2_with fail
                    refine (HA2.out _).mono ?_
                    rintro e w25 ⟨rfl, hb⟩
                    have BE25 := Lib.hid (BE24.out.trans (hb.mono BE24.out.size))
                    clear hb
                    go_wp2_with fail
                    refine (HA3.out _).mono ?_
                    rintro e w26 ⟨rfl, hb⟩
                    have BE26 := Lib.hid (BE25.out.trans (hb.mono BE25.out.size))
                    clear hb
                    go_wp2_with fail
                    refine (HA4.out _).mono ?_
                    rintro e w27 ⟨rfl, hb⟩
                    have BE27 := Lib.hid (BE26.out.trans (hb.mono BE26.out.size))
                    clear hb
                    go_wp2
                    go_ret
                    exact ⟨rfl, BE27.out⟩
              · skip
                have e1 : askF RReverseNumber m c = none := if_neg hq2
                rw [e1] at HRI HRS
                simp only [optRes] at HRI HRS
                clear hq2 e1
                go_wp2_with fail
                refine (HRI.out _).mono ?_
                rintro e w22 ⟨rfl, hb⟩
                have BE22 := Lib.hid (BE21.out.trans (hb.mono BE21.out.size))
                clear hb
                go_wp2_with fail
                refine (HRS.out _).mono ?_
                rintro e w23 ⟨rfl, hb⟩
                have BE23 := Lib.hid (BE22.out.trans (hb.mono BE22.out.size))
                clear hb
                go_wp2
                go_ret
                exact ⟨rfl, BE23.out⟩
          · clear hlt
            as_aux_lemma =>
              go_wp2_with fail
              refine (draw_ReverseNumber _ xs1 _ (HS1.out.keep BE20.out) HL1.out).mono ?_
              rintro e y1 ⟨m, c, rfl, hb⟩
              have BE21 := Lib.hid (BE20.out.trans (hb.mono BE20.out.size))
              clear hb
              have HRI := Lib.hid (fun w => impl_ReverseNumber m c w)
              have HRS := Lib.hid (fun w => spec_ReverseNumber m c w)
              by_cases hq2 : Num m ∧ Bas c
              · skip
                have e1 : askF RReverseNumber m c = RReverseNumber c m := if_pos hq2
                rw [e1] at HRI HRS
                have HTW := Lib.hid (fun k (hz : m % c ≠ 0) (h : RReverseNumber c m = some k) => twice_facts hq2.1 hq2.2 hz h)
                have HQ2 := Lib.hid hq2
                obtain ⟨rk, hrk⟩ : ∃ rk, rk = RReverseNumber c m := ⟨_, rfl⟩
                rw [← hrk] at HRI HRS HTW
                obtain ⟨⟨m0, m1⟩, c0, c1⟩ := hq2
                clear hrk e1
                cases rk with
                | none =>
                  simp only [optRes] at HRI HRS
                  go_wp2_with fail
                  refine (HRI.out _).mono ?_
                  rintro e w22 ⟨rfl, hb⟩
                  have BE22 := Lib.hid (BE21.out.trans (hb.mono BE21.out.size))
                  clear hb
                  go_wp2_with fail
                  refine (HRS.out _).mono ?_
                  rintro e w23 ⟨rfl, hb⟩
                  have BE23 := Lib.hid (BE22.out.trans (hb.mono BE22.out.size))
                  clear hb
                  go_wp2
                  go_ret
                  exact ⟨rfl, BE23.out⟩
                | some k =>
                  simp only [optRes] at HRI HRS
                  go_wp2_with fail
                  refine (HRI.out _).mono ?_
                  rintro e w22 ⟨rfl, hb⟩
                  have BE22 := Lib.hid (BE21.out.trans (hb.mono BE21.out.size))
                  clear hb
                  go_wp2_with fail
                  refine (HRS.out _).mono ?_
                  rintro e w23 ⟨rfl, hb⟩
                  have BE23 := Lib.hid (BE22.out.trans (hb.mono BE22.out.size))
                  clear hb
                  have hc0 : ¬ c = 0 := by omega
                  have t1 : m.tmod c = m % c := Int.tmod_eq_emod_of_nonneg m0
                  by_cases hz : m % c = 0
                  · have t2 : (m % c != 0) = false := by rw [hz]; rfl
                    clear hz
                    go_wp2
                    go_ret
                    exact ⟨rfl, BE23.out⟩
                  · have t2 : (m % c != 0) = true := by simp [hz]
                    obtain ⟨q1, q2, q3, q4⟩ := HTW.out k hz rfl
                    have HA1 := Lib.hid (fun w => impl_ReverseNumber k c w)
                    have a1 : askF RReverseNumber k c = some m := by unfold askF; rw [if_pos ⟨q1, HQ2.out.2⟩]; exact q2
                    rw [a1] at HA1
                    have HA2 := Lib.hid (fun w => impl_DigitSum k c w)
                    have a2 : askI RDigitSum k c = some (dgs c m).sum := by unfold askI; rw [if_pos ⟨q1, HQ2.out.2⟩]; exact congrArg some q3
                    rw [a2] at HA2
                    have HA3 := Lib.hid (fun w => impl_DigitSum m c w)
                    have a3 : askI RDigitSum m c = some (dgs c m).sum := if_pos HQ2.out
                    rw [a3] at HA3
                    have HA4 := Lib.hid (fun w => impl_IsPalindrome m c w)
                    rw [okq_yes HQ2.out] at HA4
                    obtain ⟨yv, hyv⟩ : ∃ yv, yv = RPal m c := ⟨_, rfl⟩
                    rw [← hyv] at HA4 q4
                    obtain ⟨sv, hsv⟩ : ∃ sv, sv = (dgs c m).sum := ⟨_, rfl⟩
                    rw [← hsv] at HA2 HA3
                    simp only [optRes] at HA1 HA2 HA3
                    clear q1 q2 q3 a1 a2 a3 hyv hsv hz
                    go_wp2_with fail
                    refine (HA1.out _).mono ?_
                    rintro e w24 ⟨rfl, hb⟩
                    have BE24 := Lib.hid (BE23.out.trans (hb.mono BE23.out.size))
                    clear hb
                    go_wp2_with fail
                    refine (HA2.out _).mono ?_
                    rintro e w25 ⟨rfl, hb⟩
                    have BE25 := Lib.hid (BE24.out.trans (hb.mono BE24.out.size))
                    clear hb
                    go_wp2_with fail
                    refine (HA3.out _).mono ?_
                    rintro e w26 ⟨rfl, hb⟩
                    have BE26 := Lib.hid (BE25.out.trans (hb.mono BE25.out.size))
                    clear hb
                    go_wp2_with fail
                    refine (HA4.out _).mono ?_
                    rintro e w27 ⟨rfl, hb⟩
                    have BE27 := Lib.hid (BE26.out.trans (hb.mono BE26.out.size))
                    clear hb
                    go_wp2
                    go_ret
                    exact ⟨rfl, BE27.out⟩
              · skip
                have e1 : askF RReverseNumber m c = none := if_neg hq2
                rw [e1] at HRI HRS
                simp only [optRes] at HRI HRS
                clear hq2 e1
                go_wp2_with fail
                refine (HRI.out _).mono ?_
                rintro e w22 ⟨rfl, hb⟩
                have BE22 := Lib.hid (BE21.out.trans (hb.mono BE21.out.size))
                clear hb
                go_wp2_with fail
                refine (HRS.out _).mono ?_
                rintro e w23 ⟨rfl, hb⟩
                have BE23 := Lib.hid (BE22.out.trans (hb.mono BE22.out.size))
                clear hb
                go_wp2
                go_ret
                exact ⟨rfl, BE23.out⟩
  · skip
    have e1 : askF RNextPalindrome n b = none := if_neg hq
    rw [e1] at HI1 HT1
    rw [okq_no hq] at HI2 HT2
    simp only [optRes] at HI1 HT1
    clear hq e1
    go_wp2_with fail
    refine (HI1.out _).mono ?_
    rintro e w2 ⟨rfl, hb⟩
    have BE2 := Lib.hid (BE1.out.trans (hb.mono BE1.out.size))
    clear hb
    go_wp2_with fail
    refine (HT1.out _).mono ?_
    rintro e w3 ⟨rfl, hb⟩
    have BE3 := Lib.hid (BE2.out.trans (hb.mono BE2.out.size))
    clear hb
    go_wp2_with fail
    refine (HI2.out _).mono ?_
    rintro e w4 ⟨rfl, hb⟩
    have BE4 := Lib.hid (BE3.out.trans (hb.mono BE3.out.size))
    clear hb
    go_wp2_with fail
    refine (HT2.out _).mono ?_
    rintro e w5 ⟨rfl, hb⟩
    have BE5 := Lib.hid (BE4.out.trans (hb.mono BE4.out.size))
    clear hb
    as_aux_lemma =>
      go_wp2_with fail
      refine (draw_ReverseNumber _ xs1 _ (HS1.out.keep BE5.out) HL1.out).mono ?_
      rintro e y1 ⟨m, c, rfl, hb⟩
      have BE6 := Lib.hid (BE5.out.trans (hb.mono BE5.out.size))
      clear hb
      have HRI := Lib.hid (fun w => impl_ReverseNumber m c w)
      have HRS := Lib.hid (fun w => spec_ReverseNumber m c w)
      by_cases hq2 : Num m ∧ Bas c
      · skip
        have e1 : askF RReverseNumber m c = RReverseNumber c m := if_pos hq2
        rw [e1] at HRI HRS
        have HTW := Lib.hid (fun k (hz : m % c ≠ 0) (h : RReverseNumber c m = some k) => twice_facts hq2.1 hq2.2 hz h)
        have HQ2 := Lib.hid hq2
        obtain ⟨rk, hrk⟩ : ∃ rk, rk = RReverseNumber c m := ⟨_, rfl⟩
        rw [← hrk] at HRI HRS HTW
        obtain ⟨⟨m0, m1⟩, c0, c1⟩ := hq2
        clear hrk e1
        cases rk with
        | none =>
          simp only [optRes] at HRI HRS
          go_wp2_with fail
          refine (HRI.out _).mono ?_
          rintro e w7 ⟨rfl, hb⟩
          have BE7 := Lib.hid (BE6.out.trans (hb.mono BE6.out.size))
          clear hb
          go_wp2_with fail
          refine (HRS.out _).mono ?_
          rintro e w8 ⟨rfl, hb⟩
          have BE8 := Lib.hid (BE7.out.trans (hb.mono BE7.out.size))
          clear hb
          go_wp2
          go_ret
          exact ⟨rfl, BE8.out⟩
        | some k =>
          simp only [optRes] at HRI HRS
          go_wp2_with fail
          refine (HRI.out _).mono ?_
          rintro e w7 ⟨rfl, hb⟩
          have BE7 := Lib.hid (BE6.out.trans (hb.mono BE6.out.size))
          clear hb
          go_wp2_with fail
          refine (HRS.out _).mono ?_
          rintro e w8 ⟨rfl, hb⟩
          have BE8 := Lib.hid (BE7.out.trans (hb.mono BE7.out.size))
          clear hb
          have hc0 : ¬ c = 0 := by omega
          have t1 : m.tmod c = m % c := Int.tmod_eq_emod_of_nonneg m0
          by_cases hz : m % c = 0
          · have t2 : (m % c != 0) = false := by rw [hz]; rfl
            clear hz
            go_wp2
            go_ret
            exact ⟨rfl, BE8.out⟩
          · have t2 : (m % c != 0) = true := by simp [hz]
            obtain ⟨q1, q2, q3, q4⟩ := HTW.out k hz rfl
            have HA1 := Lib.hid (fun w => impl_ReverseNumber k c w)
            have a1 : askF RReverseNumber k c = some m := by unfold askF; rw [if_pos ⟨q1, HQ2.out.2⟩]; exact q2
            rw [a1] at HA1
            have HA2 := Lib.hid (fun w => impl_DigitSum k c w)
            have a2 : askI RDigitSum k c = some (dgs c m).sum := by unfold askI; rw [if_pos ⟨q1, HQ2.out.2⟩]; exact congrArg some q3
            rw [a2] at HA2
            have HA3 := Lib.hid (fun w => impl_DigitSum m c w)
            have a3 : askI RDigitSum m c = some (dgs c m).sum := if_pos HQ2.out
            rw [a3] at HA3
            have HA4 := Lib.hid (fun w => impl_IsPalindrome m c w)
            rw [okq_yes HQ2.out] at HA4
            obtain ⟨yv, hyv⟩ : ∃ yv, yv = RPal m c := ⟨_, rfl⟩
            rw [← hyv] at HA4 q4
            obtain ⟨sv, hsv⟩ : ∃ sv, sv = (dgs c m).sum := ⟨_, rfl⟩
            rw [← hsv] at HA2 HA3
            simp only [optRes] at HA1 HA2 HA3
            clear q1 q2 q3 a1 a2 a3 hyv hsv hz
            go_wp2_with fail
            refine (HA1.out _).mono ?_
            rintro e w9 ⟨rfl, hb⟩
            have BE9 := Lib.hid (BE8.out.trans (hb.mono BE8.out.size))
            clear hb
            go_wp2_with fail
            refine (HA2.out _).mono ?_
            rintro e w10 ⟨rfl, hb⟩
            have BE10 := Lib.hid (BE9.out.trans (hb.mono BE9.out.size))
            clear hb
            go_wp2_with fail
            refine (HA3.out _).mono ?_
            rintro e w11 ⟨rfl, hb⟩
            have BE11 := Lib.hid (BE10.out.trans (hb.mono BE10.out.size))
            clear hb
            go_wp2_with fail
            refine (HA4.out _).mono ?_
            rintro e w12 ⟨rfl, hb⟩
            have BE12 := Lib.hid (BE11.out.trans (hb.mono BE11.out.size))
            clear hb
            go_wp2
            go_ret
            exact ⟨rfl, BE12.out⟩
      · skip
        have e1 : askF RReverseNumber m c = none := if_neg hq2
        rw [e1] at HRI HRS
        simp only [optRes] at HRI HRS
        clear hq2 e1
        go_wp2_with fail
        refine (HRI.out _).mono ?_
        rintro e w7 ⟨rfl, hb⟩
        have BE7 := Lib.hid (BE6.out.trans (hb.mono BE6.out.size))
        clear hb
        go_wp2_with fail
        refine (HRS.out _).mono ?_
        rintro e w8 ⟨rfl, hb⟩
        have BE8 := Lib.hid (BE7.out.trans (hb.mono BE7.out.size))
        clear hb
        go_wp2
        go_ret
        exact ⟨rfl, BE8.out⟩

end Go.Proofs.Ytjclbfjjakfjiaa
