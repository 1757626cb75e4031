/-
  Answers of stage 6 (written by wip/tools/gen_we.py).
-/
import Derived.Test.YtedpplonclonkaaWD
import Derived.Test.YtedpplonclonkaaK
namespace Go.Proofs.Ytedpplonclonkaa
open Go.RowKit
set_option linter.unusedVariables false
set_option linter.unusedSimpArgs false
set_option maxRecDepth 100000

def RPersistenceOf (b n : Int) : Int := ((pru b n).length : Int) - 1
def RSumPersistence (b n : Int) : Int := ((sru b n).length : Int) - 1
def RProductRoot (b n : Int) : Int := lastD (pru b n)
def RRootByRemainder (b n : Int) : Int := rbr b n
def RNextHarshad (b n : Int) : Option Int := nexH b (n + 1)

theorem tell_persistence (n b : Int) (w : World) :
    Calls Try.prog 55 #[.int .i64 n, .int .i64 b, .func (Fn.func 56) #[] #[]] w fun e w' => e = .returned (optRes (askI RPersistenceOf n b)) ∧ Below w.heap.size w w' := by
  by_cases hn : Num n
  · have a1 : decide (Num n) = true := decide_eq_true hn
    by_cases hB : Bas b
    · have a2 : decide (Bas b) = true := decide_eq_true hB
      have hR := Lib.hid (show askI RPersistenceOf n b = some (RPersistenceOf b n) from if_pos ⟨hn, hB⟩)
      obtain ⟨n0, n1⟩ := hn
      obtain ⟨b0, b1⟩ := hB
      go_enter Try.func55, Try.ntmps55
      go_wp2_with (first | (go_at_call 89; refine (isNumber_any _ _).mono ?_; rintro e w1 ⟨rfl, rfl⟩) | (go_at_call 72; refine (isBase_any _ _).mono ?_; rintro e w1 ⟨rfl, rfl⟩) | (go_at_call 56; refine (persistence_any _ _ _ n0 n1 b0 b1).mono ?_; rintro e w1 ⟨rfl, hbl⟩; have HB := Lib.hid hbl; clear hbl))
      go_ret2
      exact ⟨by rw [hR.out]; rfl, HB.out⟩
    · have a2 : decide (Bas b) = false := decide_eq_false hB
      have hR := Lib.hid (show askI RPersistenceOf n b = none from if_neg (fun h => hB h.2))
      clear hn hB
      go_enter Try.func55, Try.ntmps55
      go_wp2_with (first | (go_at_call 89; refine (isNumber_any _ _).mono ?_; rintro e w1 ⟨rfl, rfl⟩) | (go_at_call 72; refine (isBase_any _ _).mono ?_; rintro e w1 ⟨rfl, rfl⟩))
      go_ret2
      exact ⟨by rw [hR.out]; rfl, Below.refl _ _⟩
  · have a1 : decide (Num n) = false := decide_eq_false hn
    have hR := Lib.hid (show askI RPersistenceOf n b = none from if_neg (fun h => hn h.1))
    clear hn
    go_enter Try.func55, Try.ntmps55
    go_wp2_with (first | (go_at_call 89; refine (isNumber_any _ _).mono ?_; rintro e w1 ⟨rfl, rfl⟩) | (go_at_call 72; refine (isBase_any _ _).mono ?_; rintro e w1 ⟨rfl, rfl⟩))
    go_ret2
    exact ⟨by rw [hR.out]; rfl, Below.refl _ _⟩

theorem impl_PersistenceOf (n b : Int) (w : World) :
    Calls Try.prog 24 #[.int .i64 n, .int .i64 b] w fun e w' => e = .returned (optRes (askI RPersistenceOf n b)) ∧ Below w.heap.size w w' := by
  go_enter Try.func24, Try.ntmps24
  go_wp2_with (go_at_call 55; refine (tell_persistence _ _ _).mono ?_; rintro e w1 ⟨rfl, hbl⟩; have HB := Lib.hid hbl; clear hbl)
  go_ret2
  exact ⟨rfl, HB.out⟩

theorem spec_PersistenceOf (n b : Int) (w : World) :
    Calls Try.prog 23 #[.int .i64 n, .int .i64 b] w fun e w' => e = .returned (optRes (askI RPersistenceOf n b)) ∧ Below w.heap.size w w' := by
  by_cases hq : Num n ∧ Bas b
  · have a1 : decide (Num n ∧ Bas b) = true := decide_eq_true hq
    have hR := Lib.hid (show askI RPersistenceOf n b = some (RPersistenceOf b n) from if_pos hq)
    obtain ⟨⟨n0, n1⟩, b0, b1⟩ := hq
    have hall := Lib.hid (dgs_all b n b0 n0)
    have hlen := Lib.hid (dgs_len40 b n b0 n0 n1)
    have hlenr := pru_len b n b0 b1 n0 n1
    have hposr := ru_pos b (pd b) n
    change 1 ≤ (pru b n).length at hposr
    go_enter Try.func23, Try.ntmps23
    go_wp2_with (first | (go_at_call 51; refine (dgAsked_any _ _ _).mono ?_; rintro e w1 ⟨rfl, rfl⟩) | (go_at_call 82; refine (dgOf_s _ _ _ n0 n1 b0 b1).mono ?_; rintro e w1 ⟨g, cap, rfl, hr, hbl⟩; have HB := Lib.hid hbl; have HR := Lib.hid hr; clear hbl hr) | (go_at_call 52; refine (prRun_p _ _ _ n0 n1 b0 b1).mono ?_; rintro e w1 ⟨g, cap, rfl, hr, hbl⟩; have HB := Lib.hid hbl; have HR := Lib.hid hr; clear hbl hr))
    go_ret2
    exact ⟨by rw [hR.out]; first | rfl | (simp [optRes, RPersistenceOf, RSumPersistence]), HB.out⟩
  · have a1 : decide (Num n ∧ Bas b) = false := decide_eq_false hq
    have hR := Lib.hid (show askI RPersistenceOf n b = none from if_neg hq)
    clear hq
    go_enter Try.func23, Try.ntmps23
    go_wp2_with (go_at_call 51; refine (dgAsked_any _ _ _).mono ?_; rintro e w1 ⟨rfl, rfl⟩)
    go_ret2
    exact ⟨by rw [hR.out]; rfl, Below.refl _ _⟩

theorem law_PersistenceOf (n b : Int) (w : World) :
    Calls Try.prog 4 #[.int .i64 n, .int .i64 b] w fun e w' => e = .returned (.bool true) ∧ Below w.heap.size w w' := by
  go_enter Try.func4, Try.ntmps4
  go_wp2_with (first | (go_at_call 23; refine (spec_PersistenceOf _ _ _).mono ?_; rintro e w1 ⟨rfl, hbl⟩; have HB1 := Lib.hid hbl; clear hbl) | (go_at_call 24; refine (impl_PersistenceOf _ _ _).mono ?_; rintro e w2 ⟨rfl, hbl⟩; have HB2 := Lib.hid hbl; clear hbl))
  go_ret
  exact ⟨by simp, Below.step HB1.out HB1.out.size HB2.out⟩

theorem tell_sumPersistence (n b : Int) (w : World) :
    Calls Try.prog 55 #[.int .i64 n, .int .i64 b, .func (Fn.func 75) #[] #[]] w fun e w' => e = .returned (optRes (askI RSumPersistence n b)) ∧ Below w.heap.size w w' := by
  by_cases hn : Num n
  · have a1 : decide (Num n) = true := decide_eq_true hn
    by_cases hB : Bas b
    · have a2 : decide (Bas b) = true := decide_eq_true hB
      have hR := Lib.hid (show askI RSumPersistence n b = some (RSumPersistence b n) from if_pos ⟨hn, hB⟩)
      obtain ⟨n0, n1⟩ := hn
      obtain ⟨b0, b1⟩ := hB
      go_enter Try.func55, Try.ntmps55
      go_wp2_with (first | (go_at_call 89; refine (isNumber_any _ _).mono ?_; rintro e w1 ⟨rfl, rfl⟩) | (go_at_call 72; refine (isBase_any _ _).mono ?_; rintro e w1 ⟨rfl, rfl⟩) | (go_at_call 75; refine (sumPersistence_any _ _ _ n0 n1 b0 b1).mono ?_; rintro e w1 ⟨rfl, hbl⟩; have HB := Lib.hid hbl; clear hbl))
      go_ret2
      exact ⟨by rw [hR.out]; rfl, HB.out⟩
    · have a2 : decide (Bas b) = false := decide_eq_false hB
      have hR := Lib.hid (show askI RSumPersistence n b = none from if_neg (fun h => hB h.2))
      clear hn hB
      go_enter Try.func55, Try.ntmps55
      go_wp2_with (first | (go_at_call 89; refine (isNumber_any _ _).mono ?_; rintro e w1 ⟨rfl, rfl⟩) | (go_at_call 72; refine (isBase_any _ _).mono ?_; rintro e w1 ⟨rfl, rfl⟩))
      go_ret2
      exact ⟨by rw [hR.out]; rfl, Below.refl _ _⟩
  · have a1 : decide (Num n) = false := decide_eq_false hn
    have hR := Lib.hid (show askI RSumPersistence n b = none from if_neg (fun h => hn h.1))
    clear hn
    go_enter Try.func55, Try.ntmps55
    go_wp2_with (first | (go_at_call 89; refine (isNumber_any _ _).mono ?_; rintro e w1 ⟨rfl, rfl⟩) | (go_at_call 72; refine (isBase_any _ _).mono ?_; rintro e w1 ⟨rfl, rfl⟩))
    go_ret2
    exact ⟨by rw [hR.out]; rfl, Below.refl _ _⟩

theorem impl_SumPersistence (n b : Int) (w : World) :
    Calls Try.prog 38 #[.int .i64 n, .int .i64 b] w fun e w' => e = .returned (optRes (askI RSumPersistence n b)) ∧ Below w.heap.size w w' := by
  go_enter Try.func38, Try.ntmps38
  go_wp2_with (go_at_call 55; refine (tell_sumPersistence _ _ _).mono ?_; rintro e w1 ⟨rfl, hbl⟩; have HB := Lib.hid hbl; clear hbl)
  go_ret2
  exact ⟨rfl, HB.out⟩

theorem spec_SumPersistence (n b : Int) (w : World) :
    Calls Try.prog 37 #[.int .i64 n, .int .i64 b] w fun e w' => e = .returned (optRes (askI RSumPersistence n b)) ∧ Below w.heap.size w w' := by
  by_cases hq : Num n ∧ Bas b
  · have a1 : decide (Num n ∧ Bas b) = true := decide_eq_true hq
    have hR := Lib.hid (show askI RSumPersistence n b = some (RSumPersistence b n) from if_pos hq)
    obtain ⟨⟨n0, n1⟩, b0, b1⟩ := hq
    have hall := Lib.hid (dgs_all b n b0 n0)
    have hlen := Lib.hid (dgs_len40 b n b0 n0 n1)
    have hlenr := sru_len b n b0 b1 n0 n1
    have hposr := ru_pos b (sd b) n
    change 1 ≤ (sru b n).length at hposr
    go_enter Try.func37, Try.ntmps37
    go_wp2_with (first | (go_at_call 51; refine (dgAsked_any _ _ _).mono ?_; rintro e w1 ⟨rfl, rfl⟩) | (go_at_call 82; refine (dgOf_s _ _ _ n0 n1 b0 b1).mono ?_; rintro e w1 ⟨g, cap, rfl, hr, hbl⟩; have HB := Lib.hid hbl; have HR := Lib.hid hr; clear hbl hr) | (go_at_call 52; refine (prRun_s _ _ _ n0 n1 b0 b1).mono ?_; rintro e w1 ⟨g, cap, rfl, hr, hbl⟩; have HB := Lib.hid hbl; have HR := Lib.hid hr; clear hbl hr))
    go_ret2
    exact ⟨by rw [hR.out]; first | rfl | (simp [optRes, RPersistenceOf, RSumPersistence]), HB.out⟩
  · have a1 : decide (Num n ∧ Bas b) = false := decide_eq_false hq
    have hR := Lib.hid (show askI RSumPersistence n b = none from if_neg hq)
    clear hq
    go_enter Try.func37, Try.ntmps37
    go_wp2_with (go_at_call 51; refine (dgAsked_any _ _ _).mono ?_; rintro e w1 ⟨rfl, rfl⟩)
    go_ret2
    exact ⟨by rw [hR.out]; rfl, Below.refl _ _⟩

theorem law_SumPersistence (n b : Int) (w : World) :
    Calls Try.prog 11 #[.int .i64 n, .int .i64 b] w fun e w' => e = .returned (.bool true) ∧ Below w.heap.size w w' := by
  go_enter Try.func11, Try.ntmps11
  go_wp2_with (first | (go_at_call 37; refine (spec_SumPersistence _ _ _).mono ?_; rintro e w1 ⟨rfl, hbl⟩; have HB1 := Lib.hid hbl; clear hbl) | (go_at_call 38; refine (impl_SumPersistence _ _ _).mono ?_; rintro e w2 ⟨rfl, hbl⟩; have HB2 := Lib.hid hbl; clear hbl))
  go_ret
  exact ⟨by simp, Below.step HB1.out HB1.out.size HB2.out⟩

theorem tell_productRoot (n b : Int) (w : World) :
    Calls Try.prog 55 #[.int .i64 n, .int .i64 b, .func (Fn.func 58) #[] #[]] w fun e w' => e = .returned (optRes (askI RProductRoot n b)) ∧ Below w.heap.size w w' := by
  by_cases hn : Num n
  · have a1 : decide (Num n) = true := decide_eq_true hn
    by_cases hB : Bas b
    · have a2 : decide (Bas b) = true := decide_eq_true hB
      have hR := Lib.hid (show askI RProductRoot n b = some (RProductRoot b n) from if_pos ⟨hn, hB⟩)
      obtain ⟨n0, n1⟩ := hn
      obtain ⟨b0, b1⟩ := hB
      go_enter Try.func55, Try.ntmps55
      go_wp2_with (first | (go_at_call 89; refine (isNumber_any _ _).mono ?_; rintro e w1 ⟨rfl, rfl⟩) | (go_at_call 72; refine (isBase_any _ _).mono ?_; rintro e w1 ⟨rfl, rfl⟩) | (go_at_call 58; refine (productRoot_any _ _ _ n0 n1 b0 b1).mono ?_; rintro e w1 ⟨rfl, hbl⟩; have HB := Lib.hid hbl; clear hbl))
      go_ret2
      exact ⟨by rw [hR.out]; rfl, HB.out⟩
    · have a2 : decide (Bas b) = false := decide_eq_false hB
      have hR := Lib.hid (show askI RProductRoot n b = none from if_neg (fun h => hB h.2))
      clear hn hB
      go_enter Try.func55, Try.ntmps55
      go_wp2_with (first | (go_at_call 89; refine (isNumber_any _ _).mono ?_; rintro e w1 ⟨rfl, rfl⟩) | (go_at_call 72; refine (isBase_any _ _).mono ?_; rintro e w1 ⟨rfl, rfl⟩))
      go_ret2
      exact ⟨by rw [hR.out]; rfl, Below.refl _ _⟩
  · have a1 : decide (Num n) = false := decide_eq_false hn
    have hR := Lib.hid (show askI RProductRoot n b = none from if_neg (fun h => hn h.1))
    clear hn
    go_enter Try.func55, Try.ntmps55
    go_wp2_with (first | (go_at_call 89; refine (isNumber_any _ _).mono ?_; rintro e w1 ⟨rfl, rfl⟩) | (go_at_call 72; refine (isBase_any _ _).mono ?_; rintro e w1 ⟨rfl, rfl⟩))
    go_ret2
    exact ⟨by rw [hR.out]; rfl, Below.refl _ _⟩

theorem impl_ProductRoot (n b : Int) (w : World) :
    Calls Try.prog 26 #[.int .i64 n, .int .i64 b] w fun e w' => e = .returned (optRes (askI RProductRoot n b)) ∧ Below w.heap.size w w' := by
  go_enter Try.func26, Try.ntmps26
  go_wp2_with (go_at_call 55; refine (tell_productRoot _ _ _).mono ?_; rintro e w1 ⟨rfl, hbl⟩; have HB := Lib.hid hbl; clear hbl)
  go_ret2
  exact ⟨rfl, HB.out⟩

theorem spec_ProductRoot (n b : Int) (w : World) :
    Calls Try.prog 25 #[.int .i64 n, .int .i64 b] w fun e w' => e = .returned (optRes (askI RProductRoot n b)) ∧ Below w.heap.size w w' := by
  by_cases hq : Num n ∧ Bas b
  · have a1 : decide (Num n ∧ Bas b) = true := decide_eq_true hq
    have hR := Lib.hid (show askI RProductRoot n b = some (RProductRoot b n) from if_pos hq)
    obtain ⟨⟨n0, n1⟩, b0, b1⟩ := hq
    have hall := Lib.hid (dgs_all b n b0 n0)
    have hlen := Lib.hid (dgs_len40 b n b0 n0 n1)
    have hlenr := pru_len b n b0 b1 n0 n1
    have hposr := ru_pos b (pd b) n
    change 1 ≤ (pru b n).length at hposr
    go_enter Try.func25, Try.ntmps25
    go_wp2_with (first | (go_at_call 51; refine (dgAsked_any _ _ _).mono ?_; rintro e w1 ⟨rfl, rfl⟩) | (go_at_call 82; refine (dgOf_s _ _ _ n0 n1 b0 b1).mono ?_; rintro e w1 ⟨g, cap, rfl, hr, hbl⟩; have HB := Lib.hid hbl; have HR := Lib.hid hr; clear hbl hr) | (go_at_call 52; refine (prRun_p _ _ _ n0 n1 b0 b1).mono ?_; rintro e w1 ⟨g, cap, rfl, hr, hbl⟩; have HB := Lib.hid hbl; have HR := Lib.hid hr; clear hbl hr) | (go_at_call 57; refine (prLast_any _ _ _ _ _ HR.out hposr hlenr).mono ?_; rintro e w2 ⟨rfl, rfl⟩))
    go_ret2
    exact ⟨by rw [hR.out]; first | rfl | (simp [optRes, RPersistenceOf, RSumPersistence]), HB.out⟩
  · have a1 : decide (Num n ∧ Bas b) = false := decide_eq_false hq
    have hR := Lib.hid (show askI RProductRoot n b = none from if_neg hq)
    clear hq
    go_enter Try.func25, Try.ntmps25
    go_wp2_with (go_at_call 51; refine (dgAsked_any _ _ _).mono ?_; rintro e w1 ⟨rfl, rfl⟩)
    go_ret2
    exact ⟨by rw [hR.out]; rfl, Below.refl _ _⟩

theorem law_ProductRoot (n b : Int) (w : World) :
    Calls Try.prog 5 #[.int .i64 n, .int .i64 b] w fun e w' => e = .returned (.bool true) ∧ Below w.heap.size w w' := by
  go_enter Try.func5, Try.ntmps5
  go_wp2_with (first | (go_at_call 25; refine (spec_ProductRoot _ _ _).mono ?_; rintro e w1 ⟨rfl, hbl⟩; have HB1 := Lib.hid hbl; clear hbl) | (go_at_call 26; refine (impl_ProductRoot _ _ _).mono ?_; rintro e w2 ⟨rfl, hbl⟩; have HB2 := Lib.hid hbl; clear hbl))
  go_ret
  exact ⟨by simp, Below.step HB1.out HB1.out.size HB2.out⟩

theorem tell_rootByRemainder (n b : Int) (w : World) :
    Calls Try.prog 55 #[.int .i64 n, .int .i64 b, .func (Fn.func 77) #[] #[]] w fun e w' => e = .returned (optRes (askI RRootByRemainder n b)) ∧ Below w.heap.size w w' := by
  by_cases hn : Num n
  · have a1 : decide (Num n) = true := decide_eq_true hn
    by_cases hB : Bas b
    · have a2 : decide (Bas b) = true := decide_eq_true hB
      have hR := Lib.hid (show askI RRootByRemainder n b = some (RRootByRemainder b n) from if_pos ⟨hn, hB⟩)
      obtain ⟨n0, n1⟩ := hn
      obtain ⟨b0, b1⟩ := hB
      go_enter Try.func55, Try.ntmps55
      go_wp2_with (first | (go_at_call 89; refine (isNumber_any _ _).mono ?_; rintro e w1 ⟨rfl, rfl⟩) | (go_at_call 72; refine (isBase_any _ _).mono ?_; rintro e w1 ⟨rfl, rfl⟩) | (go_at_call 77; refine (rootByRemainder_any _ _ _ n0 n1 b0 b1).mono ?_; rintro e w1 ⟨rfl, hbl⟩; have HB := Lib.hid hbl; clear hbl))
      go_ret2
      exact ⟨by rw [hR.out]; rfl, HB.out⟩
    · have a2 : decide (Bas b) = false := decide_eq_false hB
      have hR := Lib.hid (show askI RRootByRemainder n b = none from if_neg (fun h => hB h.2))
      clear hn hB
      go_enter Try.func55, Try.ntmps55
      go_wp2_with (first | (go_at_call 89; refine (isNumber_any _ _).mono ?_; rintro e w1 ⟨rfl, rfl⟩) | (go_at_call 72; refine (isBase_any _ _).mono ?_; rintro e w1 ⟨rfl, rfl⟩))
      go_ret2
      exact ⟨by rw [hR.out]; rfl, Below.refl _ _⟩
  · have a1 : decide (Num n) = false := decide_eq_false hn
    have hR := Lib.hid (show askI RRootByRemainder n b = none from if_neg (fun h => hn h.1))
    clear hn
    go_enter Try.func55, Try.ntmps55
    go_wp2_with (first | (go_at_call 89; refine (isNumber_any _ _).mono ?_; rintro e w1 ⟨rfl, rfl⟩) | (go_at_call 72; refine (isBase_any _ _).mono ?_; rintro e w1 ⟨rfl, rfl⟩))
    go_ret2
    exact ⟨by rw [hR.out]; rfl, Below.refl _ _⟩

theorem impl_RootByRemainder (n b : Int) (w : World) :
    Calls Try.prog 42 #[.int .i64 n, .int .i64 b] w fun e w' => e = .returned (optRes (askI RRootByRemainder n b)) ∧ Below w.heap.size w w' := by
  go_enter Try.func42, Try.ntmps42
  go_wp2_with (go_at_call 55; refine (tell_rootByRemainder _ _ _).mono ?_; rintro e w1 ⟨rfl, hbl⟩; have HB := Lib.hid hbl; clear hbl)
  go_ret2
  exact ⟨rfl, HB.out⟩

theorem spec_RootByRemainder (n b : Int) (w : World) :
    Calls Try.prog 41 #[.int .i64 n, .int .i64 b] w fun e w' => e = .returned (optRes (askI RRootByRemainder n b)) ∧ Below w.heap.size w w' := by
  by_cases hq : Num n ∧ Bas b
  · have a1 : decide (Num n ∧ Bas b) = true := decide_eq_true hq
    have hR := Lib.hid (show askI RRootByRemainder n b = some (rbr b n) from if_pos hq)
    obtain ⟨⟨n0, n1⟩, b0, b1⟩ := hq
    by_cases hz : n = 0
    · have HS := Lib.hid (show rbr b n = 0 from if_pos hz)
      have hbe : (n == (0 : Int)) = true := beq_yes hz
      clear hz
      go_enter Try.func41, Try.ntmps41
      go_wp2_with (go_at_call 51; refine (dgAsked_any _ _ _).mono ?_; rintro e w1 ⟨rfl, rfl⟩)
      go_ret2
      exact ⟨by rw [hR.out, HS.out]; rfl, Below.refl _ _⟩
    · have HS := Lib.hid (show rbr b n = (n - 1) % (b - 1) + 1 from if_neg hz)
      have hm : 0 ≤ (n - 1) % (b - 1) ∧ (n - 1) % (b - 1) < b - 1 := ⟨Int.emod_nonneg _ (by omega), Int.emod_lt_of_pos _ (by omega)⟩
      go_enter Try.func41, Try.ntmps41
      go_wp2_with (go_at_call 51; refine (dgAsked_any _ _ _).mono ?_; rintro e w1 ⟨rfl, rfl⟩)
      go_ret2
      exact ⟨by rw [hR.out, HS.out]; first | rfl | go_num, Below.refl _ _⟩
  · have a1 : decide (Num n ∧ Bas b) = false := decide_eq_false hq
    have hR := Lib.hid (show askI RRootByRemainder n b = none from if_neg hq)
    clear hq
    go_enter Try.func41, Try.ntmps41
    go_wp2_with (go_at_call 51; refine (dgAsked_any _ _ _).mono ?_; rintro e w1 ⟨rfl, rfl⟩)
    go_ret2
    exact ⟨by rw [hR.out]; rfl, Below.refl _ _⟩

theorem law_RootByRemainder (n b : Int) (w : World) :
    Calls Try.prog 13 #[.int .i64 n, .int .i64 b] w fun e w' => e = .returned (.bool true) ∧ Below w.heap.size w w' := by
  go_enter Try.func13, Try.ntmps13
  go_wp2_with (first | (go_at_call 41; refine (spec_RootByRemainder _ _ _).mono ?_; rintro e w1 ⟨rfl, hbl⟩; have HB1 := Lib.hid hbl; clear hbl) | (go_at_call 42; refine (impl_RootByRemainder _ _ _).mono ?_; rintro e w2 ⟨rfl, hbl⟩; have HB2 := Lib.hid hbl; clear hbl))
  go_ret
  exact ⟨by simp, Below.step HB1.out HB1.out.size HB2.out⟩

theorem tell_nextHarshad (n b : Int) (w : World) :
    Calls Try.prog 62 #[.int .i64 n, .int .i64 b, .func (Fn.func 80) #[] #[]] w fun e w' => e = .returned (optRes (askF RNextHarshad n b)) ∧ Below w.heap.size w w' := by
  by_cases hn : Num n
  · have a1 : decide (Num n) = true := decide_eq_true hn
    by_cases hB : Bas b
    · have a2 : decide (Bas b) = true := decide_eq_true hB
      have hR := Lib.hid (show askF RNextHarshad n b = RNextHarshad b n from if_pos ⟨hn, hB⟩)
      obtain ⟨n0, n1⟩ := hn
      obtain ⟨b0, b1⟩ := hB
      go_enter Try.func62, Try.ntmps62
      go_wp2_with (first | (go_at_call 89; refine (isNumber_any _ _).mono ?_; rintro e w1 ⟨rfl, rfl⟩) | (go_at_call 72; refine (isBase_any _ _).mono ?_; rintro e w1 ⟨rfl, rfl⟩) | (go_at_call 80; refine (nextHarshad_any _ _ _ n0 n1 b0 b1).mono ?_; rintro e w1 ⟨rfl, hbl⟩; have HB := Lib.hid hbl; clear hbl))
      go_ret2
      exact ⟨by rw [hR.out]; rfl, HB.out⟩
    · have a2 : decide (Bas b) = false := decide_eq_false hB
      have hR := Lib.hid (show askF RNextHarshad n b = none from if_neg (fun h => hB h.2))
      clear hn hB
      go_enter Try.func62, Try.ntmps62
      go_wp2_with (first | (go_at_call 89; refine (isNumber_any _ _).mono ?_; rintro e w1 ⟨rfl, rfl⟩) | (go_at_call 72; refine (isBase_any _ _).mono ?_; rintro e w1 ⟨rfl, rfl⟩))
      go_ret2
      exact ⟨by rw [hR.out]; rfl, Below.refl _ _⟩
  · have a1 : decide (Num n) = false := decide_eq_false hn
    have hR := Lib.hid (show askF RNextHarshad n b = none from if_neg (fun h => hn h.1))
    clear hn
    go_enter Try.func62, Try.ntmps62
    go_wp2_with (first | (go_at_call 89; refine (isNumber_any _ _).mono ?_; rintro e w1 ⟨rfl, rfl⟩) | (go_at_call 72; refine (isBase_any _ _).mono ?_; rintro e w1 ⟨rfl, rfl⟩))
    go_ret2
    exact ⟨by rw [hR.out]; rfl, Below.refl _ _⟩

theorem impl_NextHarshad (n b : Int) (w : World) :
    Calls Try.prog 46 #[.int .i64 n, .int .i64 b] w fun e w' => e = .returned (optRes (askF RNextHarshad n b)) ∧ Below w.heap.size w w' := by
  go_enter Try.func46, Try.ntmps46
  go_wp2_with (go_at_call 62; refine (tell_nextHarshad _ _ _).mono ?_; rintro e w1 ⟨rfl, hbl⟩; have HB := Lib.hid hbl; clear hbl)
  go_ret2
  exact ⟨rfl, HB.out⟩

theorem spec_NextHarshad (n b : Int) (w : World) :
    Calls Try.prog 45 #[.int .i64 n, .int .i64 b] w fun e w' => e = .returned (optRes (askF RNextHarshad n b)) ∧ Below w.heap.size w w' := by
  by_cases hq : Num n ∧ Bas b
  · have a1 : decide (Num n ∧ Bas b) = true := decide_eq_true hq
    have hR := Lib.hid (show askF RNextHarshad n b = nexH b (n + 1) from if_pos hq)
    obtain ⟨⟨n0, n1⟩, hb, hb'⟩ := hq
    go_enter Try.func45, Try.ntmps45
    go_wp2_with (go_at_call 51; refine (dgAsked_any _ _ _).mono ?_; rintro e w1 ⟨rfl, rfl⟩)
    go_loopw [0] (fun c wr => ∃ m : Int, c = .int .i64 m ∧ 0 ≤ m ∧ m ≤ 1000000000001 ∧ Hid (nexH b m = nexH b (n + 1)) ∧ Below w.heap.size w wr) (fun c _ => (1000000000001 - intOf c).toNat)
    case atStart => exact ⟨n + 1, rfl, by omega, by omega, Lib.hid rfl, Below.refl _ _⟩
    case round =>
      obtain ⟨m, rfl, m0, m1, HN, hbl⟩ := hrel
      have HB := Lib.hid hbl
      clear hbl
      by_cases hm : m ≤ 1000000000000
      · obtain ⟨q, hq⟩ : ∃ q, q = hsh b m := ⟨_, rfl⟩
        have HQ := Lib.hid hq
        cases q with
        | true =>
          have HE := Lib.hid (nexH_yes hm hq.symm)
          clear hq
          go_wp2_with (go_at_call 78; refine (prHarshad_any _ _ _ m0 hm hb hb').mono ?_; rw [← HQ.out]; rintro e w1 ⟨rfl, hbl⟩; have HB1 := Lib.hid (Below.step HB.out HB.out.size hbl); clear hbl)
          go_ret2
          exact ⟨by rw [hR.out, ← HN.out, HE.out]; rfl, HB1.out⟩
        | false =>
          have HE := Lib.hid (nexH_no hm hq.symm)
          clear hq
          go_wp2_with (go_at_call 78; refine (prHarshad_any _ _ _ m0 hm hb hb').mono ?_; rw [← HQ.out]; rintro e w1 ⟨rfl, hbl⟩; have HB1 := Lib.hid (Below.step HB.out HB.out.size hbl); clear hbl)
          go_roundw
          case rel => exact ⟨m + 1, by go_num, by omega, by omega, Lib.hid (by rw [← HE.out, HN.out]), HB1.out⟩
          case measure => simp [intOf]; omega
      · have HE := Lib.hid (nexH_end (b := b) hm)
        go_wp2
        go_ret2
        exact ⟨by rw [hR.out, ← HN.out, HE.out]; rfl, HB.out⟩
  · have a1 : decide (Num n ∧ Bas b) = false := decide_eq_false hq
    have hR := Lib.hid (show askF RNextHarshad n b = none from if_neg hq)
    clear hq
    go_enter Try.func45, Try.ntmps45
    go_wp2_with (go_at_call 51; refine (dgAsked_any _ _ _).mono ?_; rintro e w1 ⟨rfl, rfl⟩)
    go_ret2
    exact ⟨by rw [hR.out]; rfl, Below.refl _ _⟩

theorem law_NextHarshad (n b : Int) (w : World) :
    Calls Try.prog 15 #[.int .i64 n, .int .i64 b] w fun e w' => e = .returned (.bool true) ∧ Below w.heap.size w w' := by
  go_enter Try.func15, Try.ntmps15
  go_wp2_with (first | (go_at_call 45; refine (spec_NextHarshad _ _ _).mono ?_; rintro e w1 ⟨rfl, hbl⟩; have HB1 := Lib.hid hbl; clear hbl) | (go_at_call 46; refine (impl_NextHarshad _ _ _).mono ?_; rintro e w2 ⟨rfl, hbl⟩; have HB2 := Lib.hid hbl; clear hbl))
  go_ret
  exact ⟨by simp, Below.step HB1.out HB1.out.size HB2.out⟩

end Go.Proofs.Ytedpplonclonkaa
