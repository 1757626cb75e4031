/-
  The program's functions of a number and a base, from the questions' contracts (written by wip/tools/gen_ask.py).
-/
import Derived.Test.YtecnalkjlilgmaaJ
import Derived.Test.YtecnalkjlilgmaaK
namespace Go.Proofs.Ytecnalkjlilgmaa
open Go.RowKit
set_option linter.unusedVariables false
set_option linter.unusedSimpArgs false


theorem tell_sortedUp (n b : Int) (w : World) :
    Calls Try.prog 60 #[.int .i64 n, .int .i64 b, .func (Fn.func 68) #[] #[]] w fun e w' => e = .returned (optRes (askF RSortedUp n b)) ∧ Below w.heap.size w w' := by
  by_cases hn : Num n
  · have a1 : decide (Num n) = true := decide_eq_true hn
    by_cases hB : Bas b
    · have a2 : decide (Bas b) = true := decide_eq_true hB
      have hR := Lib.hid (show askF RSortedUp n b = RSortedUp b n from if_pos ⟨hn, hB⟩)
      obtain ⟨n0, n1⟩ := hn
      obtain ⟨b0, b1⟩ := hB
      go_enter Try.func60, Try.ntmps60
      go_wp2_with (first | (go_at_call 73; refine (isNumber_any _ _).mono ?_; rintro e w1 ⟨rfl, rfl⟩) | (go_at_call 50; refine (isBase_any _ _).mono ?_; rintro e w1 ⟨rfl, rfl⟩) | (go_at_call 68; refine (sortedUp_any _ _ _ n0 n1 b0 b1).mono ?_; rintro e w1 ⟨rfl, hbl⟩; have HB := Lib.hid hbl; clear hbl))
      go_ret2
      exact ⟨by rw [hR.out]; rfl, HB.out⟩
    · have a2 : decide (Bas b) = false := decide_eq_false hB
      have hR := Lib.hid (show askF RSortedUp n b = none from if_neg (fun h => hB h.2))
      clear hn hB
      go_enter Try.func60, Try.ntmps60
      go_wp2_with (first | (go_at_call 73; refine (isNumber_any _ _).mono ?_; rintro e w1 ⟨rfl, rfl⟩) | (go_at_call 50; refine (isBase_any _ _).mono ?_; rintro e w1 ⟨rfl, rfl⟩))
      go_ret2
      exact ⟨by rw [hR.out]; rfl, Below.refl _ _⟩
  · have a1 : decide (Num n) = false := decide_eq_false hn
    have hR := Lib.hid (show askF RSortedUp n b = none from if_neg (fun h => hn h.1))
    clear hn
    go_enter Try.func60, Try.ntmps60
    go_wp2_with (first | (go_at_call 73; refine (isNumber_any _ _).mono ?_; rintro e w1 ⟨rfl, rfl⟩) | (go_at_call 50; refine (isBase_any _ _).mono ?_; rintro e w1 ⟨rfl, rfl⟩))
    go_ret2
    exact ⟨by rw [hR.out]; rfl, Below.refl _ _⟩

theorem impl_SortedUp (n b : Int) (w : World) :
    Calls Try.prog 38 #[.int .i64 n, .int .i64 b] w fun e w' => e = .returned (optRes (askF RSortedUp n b)) ∧ Below w.heap.size w w' := by
  go_enter Try.func38, Try.ntmps38
  go_wp2_with (go_at_call 60; refine (tell_sortedUp _ _ _).mono ?_; rintro e w1 ⟨rfl, hbl⟩; have HB := Lib.hid hbl; clear hbl)
  go_ret2
  exact ⟨rfl, HB.out⟩

theorem spec_SortedUp (n b : Int) (w : World) :
    Calls Try.prog 37 #[.int .i64 n, .int .i64 b] w fun e w' => e = .returned (optRes (askF RSortedUp n b)) ∧ Below w.heap.size w w' := by
  by_cases hq : Num n ∧ Bas b
  · have a1 : decide (Num n ∧ Bas b) = true := decide_eq_true hq
    have hR := Lib.hid (show askF RSortedUp n b = RSortedUp b n from if_pos hq)
    obtain ⟨⟨n0, n1⟩, b0, b1⟩ := hq
    have hall := Lib.hid (dgs_all b n b0 n0)
    have hlen := Lib.hid (dgs_len40 b n b0 n0 n1)
    go_enter Try.func37, Try.ntmps37
    go_wp2_with (first | (go_at_call 43; refine (dgAsked_any _ _ _).mono ?_; rintro e w1 ⟨rfl, rfl⟩) | (go_at_call 44; refine (dgOf_s _ _ _ n0 n1 b0 b1).mono ?_; rintro e w1 ⟨g, cap, rfl, hr, hbl⟩; have HB := Lib.hid hbl; have HR := Lib.hid hr; clear hbl hr) | (go_at_call 67; refine (dgSorted_any _ _ _ HR.out.sl (by have := hlen.out; omega)).mono ?_; rintro e w2 ⟨u2, rfl, hr2, hbl2⟩; have HR2 := Lib.hid hr2; have HB2 := Lib.hid (Below.step HB.out HB.out.size hbl2); clear hr2 hbl2) | (go_at_call 49; refine (dgFrom_any _ _ _ _ _ HR2.out (fun x hx => by have := srt_all hall.out x hx; omega) b0 b1 (by have := hlen.out; rw [srt_len]; omega)).mono ?_; rintro e w3 ⟨rfl, rfl⟩))
    go_ret2
    exact ⟨by rw [hR.out]; rfl, HB2.out⟩
  · have a1 : decide (Num n ∧ Bas b) = false := decide_eq_false hq
    have hR := Lib.hid (show askF RSortedUp n b = none from if_neg hq)
    clear hq
    go_enter Try.func37, Try.ntmps37
    go_wp2_with (go_at_call 43; refine (dgAsked_any _ _ _).mono ?_; rintro e w1 ⟨rfl, rfl⟩)
    go_ret2
    exact ⟨by rw [hR.out]; rfl, Below.refl _ _⟩

theorem law_SortedUp (n b : Int) (w : World) :
    Calls Try.prog 12 #[.int .i64 n, .int .i64 b] w fun e w' => e = .returned (.bool true) ∧ Below w.heap.size w w' := by
  go_enter Try.func12, Try.ntmps12
  go_wp2_with (first | (go_at_call 37; refine (spec_SortedUp _ _ _).mono ?_; rintro e w1 ⟨rfl, hbl⟩; have HB1 := Lib.hid hbl; clear hbl) | (go_at_call 38; refine (impl_SortedUp _ _ _).mono ?_; rintro e w2 ⟨rfl, hbl⟩; have HB2 := Lib.hid hbl; clear hbl))
  go_ret
  exact ⟨by simp, Below.step HB1.out HB1.out.size HB2.out⟩

theorem tell_sortedDown (n b : Int) (w : World) :
    Calls Try.prog 60 #[.int .i64 n, .int .i64 b, .func (Fn.func 69) #[] #[]] w fun e w' => e = .returned (optRes (askF RSortedDown n b)) ∧ Below w.heap.size w w' := by
  by_cases hn : Num n
  · have a1 : decide (Num n) = true := decide_eq_true hn
    by_cases hB : Bas b
    · have a2 : decide (Bas b) = true := decide_eq_true hB
      have hR := Lib.hid (show askF RSortedDown n b = RSortedDown b n from if_pos ⟨hn, hB⟩)
      obtain ⟨n0, n1⟩ := hn
      obtain ⟨b0, b1⟩ := hB
      go_enter Try.func60, Try.ntmps60
      go_wp2_with (first | (go_at_call 73; refine (isNumber_any _ _).mono ?_; rintro e w1 ⟨rfl, rfl⟩) | (go_at_call 50; refine (isBase_any _ _).mono ?_; rintro e w1 ⟨rfl, rfl⟩) | (go_at_call 69; refine (sortedDown_any _ _ _ n0 n1 b0 b1).mono ?_; rintro e w1 ⟨rfl, hbl⟩; have HB := Lib.hid hbl; clear hbl))
      go_ret2
      exact ⟨by rw [hR.out]; rfl, HB.out⟩
    · have a2 : decide (Bas b) = false := decide_eq_false hB
      have hR := Lib.hid (show askF RSortedDown n b = none from if_neg (fun h => hB h.2))
      clear hn hB
      go_enter Try.func60, Try.ntmps60
      go_wp2_with (first | (go_at_call 73; refine (isNumber_any _ _).mono ?_; rintro e w1 ⟨rfl, rfl⟩) | (go_at_call 50; refine (isBase_any _ _).mono ?_; rintro e w1 ⟨rfl, rfl⟩))
      go_ret2
      exact ⟨by rw [hR.out]; rfl, Below.refl _ _⟩
  · have a1 : decide (Num n) = false := decide_eq_false hn
    have hR := Lib.hid (show askF RSortedDown n b = none from if_neg (fun h => hn h.1))
    clear hn
    go_enter Try.func60, Try.ntmps60
    go_wp2_with (first | (go_at_call 73; refine (isNumber_any _ _).mono ?_; rintro e w1 ⟨rfl, rfl⟩) | (go_at_call 50; refine (isBase_any _ _).mono ?_; rintro e w1 ⟨rfl, rfl⟩))
    go_ret2
    exact ⟨by rw [hR.out]; rfl, Below.refl _ _⟩

theorem impl_SortedDown (n b : Int) (w : World) :
    Calls Try.prog 40 #[.int .i64 n, .int .i64 b] w fun e w' => e = .returned (optRes (askF RSortedDown n b)) ∧ Below w.heap.size w w' := by
  go_enter Try.func40, Try.ntmps40
  go_wp2_with (go_at_call 60; refine (tell_sortedDown _ _ _).mono ?_; rintro e w1 ⟨rfl, hbl⟩; have HB := Lib.hid hbl; clear hbl)
  go_ret2
  exact ⟨rfl, HB.out⟩

theorem spec_SortedDown (n b : Int) (w : World) :
    Calls Try.prog 39 #[.int .i64 n, .int .i64 b] w fun e w' => e = .returned (optRes (askF RSortedDown n b)) ∧ Below w.heap.size w w' := by
  by_cases hq : Num n ∧ Bas b
  · have a1 : decide (Num n ∧ Bas b) = true := decide_eq_true hq
    have hR := Lib.hid (show askF RSortedDown n b = RSortedDown b n from if_pos hq)
    obtain ⟨⟨n0, n1⟩, b0, b1⟩ := hq
    have hall := Lib.hid (dgs_all b n b0 n0)
    have hlen := Lib.hid (dgs_len40 b n b0 n0 n1)
    go_enter Try.func39, Try.ntmps39
    go_wp2_with (first | (go_at_call 43; refine (dgAsked_any _ _ _).mono ?_; rintro e w1 ⟨rfl, rfl⟩) | (go_at_call 44; refine (dgOf_s _ _ _ n0 n1 b0 b1).mono ?_; rintro e w1 ⟨g, cap, rfl, hr, hbl⟩; have HB := Lib.hid hbl; have HR := Lib.hid hr; clear hbl hr) | (go_at_call 67; refine (dgSorted_any _ _ _ HR.out.sl (by have := hlen.out; omega)).mono ?_; rintro e w2 ⟨u2, rfl, hr2, hbl2⟩; have HR2 := Lib.hid hr2; have HB2 := Lib.hid (Below.step HB.out HB.out.size hbl2); clear hr2 hbl2) | (go_at_call 59; refine (dgBack_any _ _ _ HR2.out.sl (by have := hlen.out; rw [srt_len]; omega)).mono ?_; rintro e w3 ⟨u3, rfl, hr3, hbl3⟩; have HR3 := Lib.hid hr3; have HB3 := Lib.hid (Below.step HB2.out HB2.out.size hbl3); clear hr3 hbl3) | (go_at_call 49; refine (dgFrom_any _ _ _ _ _ HR3.out (fun x hx => by have := srtr_all hall.out x hx; omega) b0 b1 (by have := hlen.out; rw [List.length_reverse, srt_len]; omega)).mono ?_; rintro e w4 ⟨rfl, rfl⟩))
    go_ret2
    exact ⟨by rw [hR.out]; rfl, HB3.out⟩
  · have a1 : decide (Num n ∧ Bas b) = false := decide_eq_false hq
    have hR := Lib.hid (show askF RSortedDown n b = none from if_neg hq)
    clear hq
    go_enter Try.func39, Try.ntmps39
    go_wp2_with (go_at_call 43; refine (dgAsked_any _ _ _).mono ?_; rintro e w1 ⟨rfl, rfl⟩)
    go_ret2
    exact ⟨by rw [hR.out]; rfl, Below.refl _ _⟩

theorem law_SortedDown (n b : Int) (w : World) :
    Calls Try.prog 13 #[.int .i64 n, .int .i64 b] w fun e w' => e = .returned (.bool true) ∧ Below w.heap.size w w' := by
  go_enter Try.func13, Try.ntmps13
  go_wp2_with (first | (go_at_call 39; refine (spec_SortedDown _ _ _).mono ?_; rintro e w1 ⟨rfl, hbl⟩; have HB1 := Lib.hid hbl; clear hbl) | (go_at_call 40; refine (impl_SortedDown _ _ _).mono ?_; rintro e w2 ⟨rfl, hbl⟩; have HB2 := Lib.hid hbl; clear hbl))
  go_ret
  exact ⟨by simp, Below.step HB1.out HB1.out.size HB2.out⟩

theorem tell_digitCounts (n b : Int) (w : World) :
    Calls Try.prog 45 #[.int .i64 n, .int .i64 b, .func (Fn.func 71) #[] #[]] w fun e w' => ∃ v, e = .returned (.tuple #[v, .bool (okq n b)]) ∧ Rd w' w.heap.size v (askL LDigitCounts n b) ∧ Below w.heap.size w w' := by
  by_cases hn : Num n
  · have a1 : decide (Num n) = true := decide_eq_true hn
    by_cases hB : Bas b
    · have a2 : decide (Bas b) = true := decide_eq_true hB
      have hR := Lib.hid (show askL LDigitCounts n b = LDigitCounts b n from if_pos ⟨hn, hB⟩)
      have hD := Lib.hid (okq_yes ⟨hn, hB⟩)
      obtain ⟨n0, n1⟩ := hn
      obtain ⟨b0, b1⟩ := hB
      go_enter Try.func45, Try.ntmps45
      go_wp2_with (first | (go_at_call 73; refine (isNumber_any _ _).mono ?_; rintro e w1 ⟨rfl, rfl⟩) | (go_at_call 50; refine (isBase_any _ _).mono ?_; rintro e w1 ⟨rfl, rfl⟩) | (go_at_call 71; refine (digitCounts_any _ _ _ n0 n1 b0 b1).mono ?_; rintro e w1 ⟨u, rfl, hr, hbl⟩; have HB := Lib.hid hbl; have HR := Lib.hid hr; clear hbl hr))
      go_ret2
      exact ⟨_, by rw [hD.out]; rfl, by rw [hR.out]; exact HR.out, HB.out⟩
    · have a2 : decide (Bas b) = false := decide_eq_false hB
      have hR := Lib.hid (show askL LDigitCounts n b = [] from if_neg (fun h => hB h.2))
      have hD := Lib.hid (okq_no (n := n) (b := b) (fun h => hB h.2))
      clear hn hB
      go_enter Try.func45, Try.ntmps45
      go_wp2_with (first | (go_at_call 73; refine (isNumber_any _ _).mono ?_; rintro e w1 ⟨rfl, rfl⟩) | (go_at_call 50; refine (isBase_any _ _).mono ?_; rintro e w1 ⟨rfl, rfl⟩))
      go_ret2
      exact ⟨_, by rw [hD.out]; rfl, by rw [hR.out]; exact Rd.nil _ _, Below.refl _ _⟩
  · have a1 : decide (Num n) = false := decide_eq_false hn
    have hR := Lib.hid (show askL LDigitCounts n b = [] from if_neg (fun h => hn h.1))
    have hD := Lib.hid (okq_no (n := n) (b := b) (fun h => hn h.1))
    clear hn
    go_enter Try.func45, Try.ntmps45
    go_wp2_with (first | (go_at_call 73; refine (isNumber_any _ _).mono ?_; rintro e w1 ⟨rfl, rfl⟩) | (go_at_call 50; refine (isBase_any _ _).mono ?_; rintro e w1 ⟨rfl, rfl⟩))
    go_ret2
    exact ⟨_, by rw [hD.out]; rfl, by rw [hR.out]; exact Rd.nil _ _, Below.refl _ _⟩

theorem impl_DigitCounts (n b : Int) (w : World) :
    Calls Try.prog 42 #[.int .i64 n, .int .i64 b] w fun e w' => ∃ v, e = .returned (.tuple #[v, .bool (okq n b)]) ∧ Rd w' w.heap.size v (askL LDigitCounts n b) ∧ Below w.heap.size w w' := by
  go_enter Try.func42, Try.ntmps42
  go_wp2_with (go_at_call 45; refine (tell_digitCounts _ _ _).mono ?_; rintro e w1 ⟨u, rfl, hr, hbl⟩; have HB := Lib.hid hbl; have HR := Lib.hid hr; clear hbl hr)
  go_ret2
  exact ⟨_, rfl, HR.out, HB.out⟩

theorem spec_DigitCounts (n b : Int) (w : World) :
    Calls Try.prog 41 #[.int .i64 n, .int .i64 b] w fun e w' => ∃ v, e = .returned (.tuple #[v, .bool (okq n b)]) ∧ Rd w' w.heap.size v (askL LDigitCounts n b) ∧ Below w.heap.size w w' := by
  by_cases hq : Num n ∧ Bas b
  · have a1 : decide (Num n ∧ Bas b) = true := decide_eq_true hq
    have hR := Lib.hid (show askL LDigitCounts n b = LDigitCounts b n from if_pos hq)
    have hD := Lib.hid (okq_yes hq)
    obtain ⟨⟨n0, n1⟩, b0, b1⟩ := hq
    have hall := Lib.hid (dgs_all b n b0 n0)
    have hlen := Lib.hid (dgs_len40 b n b0 n0 n1)
    go_enter Try.func41, Try.ntmps41
    go_wp2_with (first | (go_at_call 43; refine (dgAsked_any _ _ _).mono ?_; rintro e w1 ⟨rfl, rfl⟩) | (go_at_call 44; refine (dgOf_s _ _ _ n0 n1 b0 b1).mono ?_; rintro e w1 ⟨g, cap, rfl, hr, hbl⟩; have HB := Lib.hid hbl; have HR := Lib.hid hr; clear hbl hr) | (go_at_call 70; refine (dgCounts_any _ _ _ _ _ HR.out b0 b1 hall.out (by have := hlen.out; omega)).mono ?_; rintro e w2 ⟨u2, rfl, hr2, hbl2⟩; have HR2 := Lib.hid hr2; have HB2 := Lib.hid (Below.step HB.out HB.out.size hbl2); clear hr2 hbl2))
    go_ret2
    exact ⟨_, by rw [hD.out]; rfl, by rw [hR.out]; exact (HR2.out.mono HB.out.size), HB2.out⟩
  · have a1 : decide (Num n ∧ Bas b) = false := decide_eq_false hq
    have hR := Lib.hid (show askL LDigitCounts n b = [] from if_neg hq)
    have hD := Lib.hid (okq_no hq)
    clear hq
    go_enter Try.func41, Try.ntmps41
    go_wp2_with (go_at_call 43; refine (dgAsked_any _ _ _).mono ?_; rintro e w1 ⟨rfl, rfl⟩)
    go_ret2
    exact ⟨_, by rw [hD.out]; rfl, by rw [hR.out]; exact Rd.nil _ _, Below.refl _ _⟩

theorem askL_cnt_len (n b : Int) : (askL LDigitCounts n b).length ≤ 2000000 := by
  unfold askL
  split
  · rename_i h; have := h.2.2; rw [LDigitCounts, cnt_len]; omega
  · simp

theorem law_DigitCounts (n b : Int) (w : World) :
    Calls Try.prog 14 #[.int .i64 n, .int .i64 b] w fun e w' => e = .returned (.bool true) ∧ Below w.heap.size w w' := by
  obtain ⟨xs, hxs⟩ : ∃ xs, xs = askL LDigitCounts n b := ⟨_, rfl⟩
  have hl : xs.length ≤ 2000000 := by rw [hxs]; exact askL_cnt_len n b
  have HX := Lib.hid hxs
  clear hxs
  go_enter Try.func14, Try.ntmps14
  go_wp2_with fail
  refine (spec_DigitCounts _ _ _).mono ?_
  rintro e w1 ⟨v0, rfl, hr, hb⟩
  rw [← HX.out] at hr
  have R0 := Lib.hid hr
  have B1 := Lib.hid hb
  clear hr hb
  go_wp2_with fail
  refine (impl_DigitCounts _ _ _).mono ?_
  rintro e w2 ⟨v1, rfl, hr, hb⟩
  rw [← HX.out] at hr
  have R1 := Lib.hid hr
  have R0b := Lib.hid (R0.out.keep hb)
  have A01 := Lib.hid (Rd.apart (fun k hk => (R0.out.lt k hk).2) hr)
  have B2 := Lib.hid (Below.step B1.out B1.out.size hb)
  have Z2 := hb.size
  clear hr hb
  go_wp2_with fail
  refine (eqIntS_any _ _ xs xs _ R1.out.sl R0b.out.sl hl hl).mono ?_
  rintro e w3 ⟨rfl, hb⟩
  have R1c := Lib.hid (R1.out.keep hb)
  have R0c := Lib.hid (R0b.out.keep hb)
  have B3 := Lib.hid (Below.step B2.out B2.out.size hb)
  have Z3 := hb.size
  clear hb
  go_wp2_with fail
  refine (markIntS_any _ xs _ _ _ R1c.out (by omega) (by omega) (by omega) hl).mono ?_
  rintro e w4 ⟨rfl, hr, hg⟩
  have R1d := Lib.hid hr
  have R0d := Lib.hid (R0c.out.grown hg A01.out)
  have B4 := Lib.hid (B3.out.grown hg (by have := B1.out.size; omega) (fun k hk => by have := (R1c.out.lt k hk).1; have := B1.out.size; omega))
  have Z4 := hg.size
  clear hr hg
  go_wp2_with fail
  refine (heldIntS_any _ _ _ _ _ R1d.out (by omega) (by omega) hl).mono ?_
  rintro e w5 ⟨rfl, rfl⟩
  go_wp2_with fail
  refine (impl_DigitCounts _ _ _).mono ?_
  rintro e w5 ⟨v2, rfl, hr, hb⟩
  rw [← HX.out] at hr
  have R2 := Lib.hid hr
  have R1e := Lib.hid (R1d.out.keep hb)
  have R0e := Lib.hid (R0d.out.keep hb)
  have B5 := Lib.hid (Below.step B4.out B4.out.size hb)
  clear hr hb
  go_wp2_with fail
  refine (eqIntS_any _ _ xs xs _ R2.out.sl R0e.out.sl hl hl).mono ?_
  rintro e w6 ⟨rfl, hb⟩
  have R1f := Lib.hid (R1e.out.keep hb)
  have B6 := Lib.hid (Below.step B5.out B5.out.size hb)
  clear hb
  go_wp2_with fail
  refine (heldIntS_any _ _ _ _ _ R1f.out (by omega) (by omega) hl).mono ?_
  rintro e w7 ⟨rfl, rfl⟩
  go_wp2
  go_ret
  exact ⟨rfl, B6.out⟩

end Go.Proofs.Ytecnalkjlilgmaa
