/-
  Joint text of WE WF WG (written by wip/tools/merge.py).
-/
import Derived.Test.YtgiabadkbfbilaaA7
import Derived.Test.YtgiabadkbfbilaaK
/- from XWE -/
namespace Go.Proofs.Ytgiabadkbfbilaa
open Go.RowKit
set_option linter.unusedVariables false
set_option linter.unusedSimpArgs false
set_option maxRecDepth 100000

def RPersistenceOf (b n : Int) : Int := ((pru b n).length : Int) - 1
def RSumPersistence (b n : Int) : Int := ((sru b n).length : Int) - 1
def RProductRoot (b n : Int) : Int := lastD (pru b n)
def RRootByRemainder (b n : Int) : Int := rbr b n
def RNextHarshad (b n : Int) : Option Int := nexH b (n + 1)

theorem tell_persistence (n b : Int) (w : World) :
    Calls Try.prog 94 #[.int .i64 n, .int .i64 b, .func (Fn.func 95) #[] #[]] w fun e w' => e = .returned (optRes (askI RPersistenceOf n b)) ∧ Below w.heap.size w w' := by
  by_cases hn : Num n
  · have a1 : decide (Num n) = true := decide_eq_true hn
    by_cases hB : Bas b
    · have a2 : decide (Bas b) = true := decide_eq_true hB
      have hR := Lib.hid (show askI RPersistenceOf n b = some (RPersistenceOf b n) from if_pos ⟨hn, hB⟩)
      obtain ⟨n0, n1⟩ := hn
      obtain ⟨b0, b1⟩ := hB
      go_enter Try.func94, Try.ntmps94
      go_wp2_with (first | (go_at_call 140; refine (isNumber_any _ _).mono ?_; rintro e w1 ⟨rfl, rfl⟩) | (go_at_call 111; refine (isBase_any _ _).mono ?_; rintro e w1 ⟨rfl, rfl⟩) | (go_at_call 95; refine (persistence_any _ _ _ n0 n1 b0 b1).mono ?_; rintro e w1 ⟨rfl, hbl⟩; have HB := Lib.hid hbl; clear hbl))
      go_ret2
      exact ⟨by rw [hR.out]; rfl, HB.out⟩
    · have a2 : decide (Bas b) = false := decide_eq_false hB
      have hR := Lib.hid (show askI RPersistenceOf n b = none from if_neg (fun h => hB h.2))
      clear hn hB
      go_enter Try.func94, Try.ntmps94
      go_wp2_with (first | (go_at_call 140; refine (isNumber_any _ _).mono ?_; rintro e w1 ⟨rfl, rfl⟩) | (go_at_call 111; refine (isBase_any _ _).mono ?_; rintro e w1 ⟨rfl, rfl⟩))
      go_ret2
      exact ⟨by rw [hR.out]; rfl, Below.refl _ _⟩
  · have a1 : decide (Num n) = false := decide_eq_false hn
    have hR := Lib.hid (show askI RPersistenceOf n b = none from if_neg (fun h => hn h.1))
    clear hn
    go_enter Try.func94, Try.ntmps94
    go_wp2_with (first | (go_at_call 140; refine (isNumber_any _ _).mono ?_; rintro e w1 ⟨rfl, rfl⟩) | (go_at_call 111; refine (isBase_any _ _).mono ?_; rintro e w1 ⟨rfl, rfl⟩))
    go_ret2
    exact ⟨by rw [hR.out]; rfl, Below.refl _ _⟩

theorem impl_PersistenceOf (n b : Int) (w : World) :
    Calls Try.prog 31 #[.int .i64 n, .int .i64 b] w fun e w' => e = .returned (optRes (askI RPersistenceOf n b)) ∧ Below w.heap.size w w' := by
  go_enter Try.func31, Try.ntmps31
  go_wp2_with (go_at_call 94; refine (tell_persistence _ _ _).mono ?_; rintro e w1 ⟨rfl, hbl⟩; have HB := Lib.hid hbl; clear hbl)
  go_ret2
  exact ⟨rfl, HB.out⟩

theorem spec_PersistenceOf (n b : Int) (w : World) :
    Calls Try.prog 32 #[.int .i64 n, .int .i64 b] w fun e w' => e = .returned (optRes (askI RPersistenceOf n b)) ∧ Below w.heap.size w w' := by
  by_cases hq : Num n ∧ Bas b
  · have a1 : decide (Num n ∧ Bas b) = true := decide_eq_true hq
    have hR := Lib.hid (show askI RPersistenceOf n b = some (RPersistenceOf b n) from if_pos hq)
    obtain ⟨⟨n0, n1⟩, b0, b1⟩ := hq
    have hall := Lib.hid (dgs_all b n b0 n0)
    have hlen := Lib.hid (dgs_len40 b n b0 n0 n1)
    have hlenr := pru_len b n b0 b1 n0 n1
    have hposr := ru_pos b (pd b) n
    change 1 ≤ (pru b n).length at hposr
    go_enter Try.func32, Try.ntmps32
    go_wp2_with (first | (go_at_call 92; refine (dgAsked_any _ _ _).mono ?_; rintro e w1 ⟨rfl, rfl⟩) | (go_at_call 145; refine (dgOf_s _ _ _ n0 n1 b0 b1).mono ?_; rintro e w1 ⟨g, cap, rfl, hr, hbl⟩; have HB := Lib.hid hbl; have HR := Lib.hid hr; clear hbl hr) | (go_at_call 93; refine (prRun_p _ _ _ n0 n1 b0 b1).mono ?_; rintro e w1 ⟨g, cap, rfl, hr, hbl⟩; have HB := Lib.hid hbl; have HR := Lib.hid hr; clear hbl hr))
    go_ret2
    exact ⟨by rw [hR.out]; first | rfl | (simp [optRes, RPersistenceOf, RSumPersistence]), HB.out⟩
  · have a1 : decide (Num n ∧ Bas b) = false := decide_eq_false hq
    have hR := Lib.hid (show askI RPersistenceOf n b = none from if_neg hq)
    clear hq
    go_enter Try.func32, Try.ntmps32
    go_wp2_with (go_at_call 92; refine (dgAsked_any _ _ _).mono ?_; rintro e w1 ⟨rfl, rfl⟩)
    go_ret2
    exact ⟨by rw [hR.out]; rfl, Below.refl _ _⟩

theorem tell_productRoot (n b : Int) (w : World) :
    Calls Try.prog 94 #[.int .i64 n, .int .i64 b, .func (Fn.func 96) #[] #[]] w fun e w' => e = .returned (optRes (askI RProductRoot n b)) ∧ Below w.heap.size w w' := by
  by_cases hn : Num n
  · have a1 : decide (Num n) = true := decide_eq_true hn
    by_cases hB : Bas b
    · have a2 : decide (Bas b) = true := decide_eq_true hB
      have hR := Lib.hid (show askI RProductRoot n b = some (RProductRoot b n) from if_pos ⟨hn, hB⟩)
      obtain ⟨n0, n1⟩ := hn
      obtain ⟨b0, b1⟩ := hB
      go_enter Try.func94, Try.ntmps94
      go_wp2_with (first | (go_at_call 140; refine (isNumber_any _ _).mono ?_; rintro e w1 ⟨rfl, rfl⟩) | (go_at_call 111; refine (isBase_any _ _).mono ?_; rintro e w1 ⟨rfl, rfl⟩) | (go_at_call 96; refine (productRoot_any _ _ _ n0 n1 b0 b1).mono ?_; rintro e w1 ⟨rfl, hbl⟩; have HB := Lib.hid hbl; clear hbl))
      go_ret2
      exact ⟨by rw [hR.out]; rfl, HB.out⟩
    · have a2 : decide (Bas b) = false := decide_eq_false hB
      have hR := Lib.hid (show askI RProductRoot n b = none from if_neg (fun h => hB h.2))
      clear hn hB
      go_enter Try.func94, Try.ntmps94
      go_wp2_with (first | (go_at_call 140; refine (isNumber_any _ _).mono ?_; rintro e w1 ⟨rfl, rfl⟩) | (go_at_call 111; refine (isBase_any _ _).mono ?_; rintro e w1 ⟨rfl, rfl⟩))
      go_ret2
      exact ⟨by rw [hR.out]; rfl, Below.refl _ _⟩
  · have a1 : decide (Num n) = false := decide_eq_false hn
    have hR := Lib.hid (show askI RProductRoot n b = none from if_neg (fun h => hn h.1))
    clear hn
    go_enter Try.func94, Try.ntmps94
    go_wp2_with (first | (go_at_call 140; refine (isNumber_any _ _).mono ?_; rintro e w1 ⟨rfl, rfl⟩) | (go_at_call 111; refine (isBase_any _ _).mono ?_; rintro e w1 ⟨rfl, rfl⟩))
    go_ret2
    exact ⟨by rw [hR.out]; rfl, Below.refl _ _⟩

theorem impl_ProductRoot (n b : Int) (w : World) :
    Calls Try.prog 33 #[.int .i64 n, .int .i64 b] w fun e w' => e = .returned (optRes (askI RProductRoot n b)) ∧ Below w.heap.size w w' := by
  go_enter Try.func33, Try.ntmps33
  go_wp2_with (go_at_call 94; refine (tell_productRoot _ _ _).mono ?_; rintro e w1 ⟨rfl, hbl⟩; have HB := Lib.hid hbl; clear hbl)
  go_ret2
  exact ⟨rfl, HB.out⟩

theorem spec_ProductRoot (n b : Int) (w : World) :
    Calls Try.prog 34 #[.int .i64 n, .int .i64 b] w fun e w' => e = .returned (optRes (askI RProductRoot n b)) ∧ Below w.heap.size w w' := by
  by_cases hq : Num n ∧ Bas b
  · have a1 : decide (Num n ∧ Bas b) = true := decide_eq_true hq
    have hR := Lib.hid (show askI RProductRoot n b = some (RProductRoot b n) from if_pos hq)
    obtain ⟨⟨n0, n1⟩, b0, b1⟩ := hq
    have hall := Lib.hid (dgs_all b n b0 n0)
    have hlen := Lib.hid (dgs_len40 b n b0 n0 n1)
    have hlenr := pru_len b n b0 b1 n0 n1
    have hposr := ru_pos b (pd b) n
    change 1 ≤ (pru b n).length at hposr
    go_enter Try.func34, Try.ntmps34
    go_wp2_with (first | (go_at_call 92; refine (dgAsked_any _ _ _).mono ?_; rintro e w1 ⟨rfl, rfl⟩) | (go_at_call 145; refine (dgOf_s _ _ _ n0 n1 b0 b1).mono ?_; rintro e w1 ⟨g, cap, rfl, hr, hbl⟩; have HB := Lib.hid hbl; have HR := Lib.hid hr; clear hbl hr) | (go_at_call 93; refine (prRun_p _ _ _ n0 n1 b0 b1).mono ?_; rintro e w1 ⟨g, cap, rfl, hr, hbl⟩; have HB := Lib.hid hbl; have HR := Lib.hid hr; clear hbl hr) | (go_at_call 97; refine (prLast_any _ _ _ _ _ HR.out hposr hlenr).mono ?_; rintro e w2 ⟨rfl, rfl⟩))
    go_ret2
    exact ⟨by rw [hR.out]; first | rfl | (simp [optRes, RPersistenceOf, RSumPersistence]), HB.out⟩
  · have a1 : decide (Num n ∧ Bas b) = false := decide_eq_false hq
    have hR := Lib.hid (show askI RProductRoot n b = none from if_neg hq)
    clear hq
    go_enter Try.func34, Try.ntmps34
    go_wp2_with (go_at_call 92; refine (dgAsked_any _ _ _).mono ?_; rintro e w1 ⟨rfl, rfl⟩)
    go_ret2
    exact ⟨by rw [hR.out]; rfl, Below.refl _ _⟩

end Go.Proofs.Ytgiabadkbfbilaa

/- from XWF -/
namespace Go.Proofs.Ytgiabadkbfbilaa
open Go.RowKit
set_option linter.unusedVariables false
set_option linter.unusedSimpArgs false
set_option maxRecDepth 100000

/-- What IsSmooth answers. -/
def RIsSmooth (n b : Int) : Bool := okq n b && smo b n
theorem RIsSmooth_yes {n b : Int} (h : Num n ∧ Bas b) : RIsSmooth n b = smo b n ∧ okq n b = true := by simp [RIsSmooth, okq_yes h]
theorem RIsSmooth_no {n b : Int} (h : ¬ (Num n ∧ Bas b)) : RIsSmooth n b = false ∧ okq n b = false := by simp [RIsSmooth, okq_no h]

theorem spec_IsSmooth (n b : Int) (w : World) :
    Calls Try.prog 41 #[.int .i64 n, .int .i64 b] w fun e w' => e = .returned (.tuple #[.bool (RIsSmooth n b), .bool (okq n b)]) ∧ Below w.heap.size w w' := by
  by_cases hq : Num n ∧ Bas b
  · have a1 : decide (Num n ∧ Bas b) = true := decide_eq_true hq
    have hD := Lib.hid (RIsSmooth_yes hq)
    obtain ⟨⟨n0, n1⟩, b0, b1⟩ := hq
    have hlen := Lib.hid (dgs_len40 b n b0 n0 n1)
    go_enter Try.func41, Try.ntmps41
    go_wp2_with (first | (go_at_call 92; refine (dgAsked_any _ _ _).mono ?_; rintro e w1 ⟨rfl, rfl⟩) | (go_at_call 103; refine (prSmooth_any _ _ _ n0 n1 b0 b1).mono ?_; rintro e w2 ⟨rfl, rfl⟩; have HB2 := Lib.hid (Below.refl w.heap.size w)))
    go_ret2
    exact ⟨by rw [hD.out.1, hD.out.2]; rfl, HB2.out⟩
  · have a1 : decide (Num n ∧ Bas b) = false := decide_eq_false hq
    have hD := Lib.hid (RIsSmooth_no hq)
    clear hq
    go_enter Try.func41, Try.ntmps41
    go_wp2_with (go_at_call 92; refine (dgAsked_any _ _ _).mono ?_; rintro e w1 ⟨rfl, rfl⟩)
    go_ret2
    exact ⟨by rw [hD.out.1, hD.out.2]; rfl, Below.refl _ _⟩

theorem tell_isSmooth (n b : Int) (w : World) :
    Calls Try.prog 106 #[.int .i64 n, .int .i64 b, .func (Fn.func 107) #[] #[]] w fun e w' => e = .returned (.tuple #[.bool (RIsSmooth n b), .bool (okq n b)]) ∧ Below w.heap.size w w' := by
  by_cases hn : Num n
  · have a1 : decide (Num n) = true := decide_eq_true hn
    by_cases hB : Bas b
    · have a2 : decide (Bas b) = true := decide_eq_true hB
      have hD := Lib.hid (RIsSmooth_yes ⟨hn, hB⟩)
      obtain ⟨n0, n1⟩ := hn
      obtain ⟨b0, b1⟩ := hB
      go_enter Try.func106, Try.ntmps106
      go_wp2_with (first | (go_at_call 140; refine (isNumber_any _ _).mono ?_; rintro e w1 ⟨rfl, rfl⟩) | (go_at_call 111; refine (isBase_any _ _).mono ?_; rintro e w1 ⟨rfl, rfl⟩) | (go_at_call 107; refine (isSmooth_any _ _ _ n0 n1 b0 b1).mono ?_; rintro e w1 ⟨rfl, hbl⟩; have HB := Lib.hid hbl; clear hbl))
      go_ret2
      exact ⟨by rw [hD.out.1, hD.out.2]; rfl, HB.out⟩
    · have a2 : decide (Bas b) = false := decide_eq_false hB
      have hD := Lib.hid (RIsSmooth_no (n := n) (b := b) (fun h => hB h.2))
      clear hn hB
      go_enter Try.func106, Try.ntmps106
      go_wp2_with (first | (go_at_call 140; refine (isNumber_any _ _).mono ?_; rintro e w1 ⟨rfl, rfl⟩) | (go_at_call 111; refine (isBase_any _ _).mono ?_; rintro e w1 ⟨rfl, rfl⟩))
      go_ret2
      exact ⟨by rw [hD.out.1, hD.out.2]; rfl, Below.refl _ _⟩
  · have a1 : decide (Num n) = false := decide_eq_false hn
    have hD := Lib.hid (RIsSmooth_no (n := n) (b := b) (fun h => hn h.1))
    clear hn
    go_enter Try.func106, Try.ntmps106
    go_wp2_with (first | (go_at_call 140; refine (isNumber_any _ _).mono ?_; rintro e w1 ⟨rfl, rfl⟩) | (go_at_call 111; refine (isBase_any _ _).mono ?_; rintro e w1 ⟨rfl, rfl⟩))
    go_ret2
    exact ⟨by rw [hD.out.1, hD.out.2]; rfl, Below.refl _ _⟩

theorem impl_IsSmooth (n b : Int) (w : World) :
    Calls Try.prog 40 #[.int .i64 n, .int .i64 b] w fun e w' => e = .returned (.tuple #[.bool (RIsSmooth n b), .bool (okq n b)]) ∧ Below w.heap.size w w' := by
  go_enter Try.func40, Try.ntmps40
  go_wp2_with (go_at_call 106; refine (tell_isSmooth _ _ _).mono ?_; rintro e w1 ⟨rfl, hbl⟩; have HB := Lib.hid hbl; clear hbl)
  go_ret2
  exact ⟨rfl, HB.out⟩

/-- What IsHarshad answers. -/
def RIsHarshad (n b : Int) : Bool := okq n b && hsh b n
theorem RIsHarshad_yes {n b : Int} (h : Num n ∧ Bas b) : RIsHarshad n b = hsh b n ∧ okq n b = true := by simp [RIsHarshad, okq_yes h]
theorem RIsHarshad_no {n b : Int} (h : ¬ (Num n ∧ Bas b)) : RIsHarshad n b = false ∧ okq n b = false := by simp [RIsHarshad, okq_no h]

/-- What IsZuckerman answers. -/
def RIsZuckerman (n b : Int) : Bool := okq n b && zuk b n
theorem RIsZuckerman_yes {n b : Int} (h : Num n ∧ Bas b) : RIsZuckerman n b = zuk b n ∧ okq n b = true := by simp [RIsZuckerman, okq_yes h]
theorem RIsZuckerman_no {n b : Int} (h : ¬ (Num n ∧ Bas b)) : RIsZuckerman n b = false ∧ okq n b = false := by simp [RIsZuckerman, okq_no h]

end Go.Proofs.Ytgiabadkbfbilaa

/- from XWG -/
namespace Go.Proofs.Ytgiabadkbfbilaa
open Go.RowKit
set_option linter.unusedVariables false
set_option linter.unusedSimpArgs false
set_option maxRecDepth 100000


theorem tell_productRun (n b : Int) (w : World) :
    Calls Try.prog 90 #[.int .i64 n, .int .i64 b, .func (Fn.func 91) #[] #[]] w fun e w' => ∃ v, e = .returned (.tuple #[v, .bool (okq n b)]) ∧ Rd w' w.heap.size v (askL pru n b) ∧ Below w.heap.size w w' := by
  by_cases hn : Num n
  · have a1 : decide (Num n) = true := decide_eq_true hn
    by_cases hB : Bas b
    · have a2 : decide (Bas b) = true := decide_eq_true hB
      have hR := Lib.hid (show askL pru n b = pru b n from if_pos ⟨hn, hB⟩)
      have hD := Lib.hid (okq_yes ⟨hn, hB⟩)
      obtain ⟨n0, n1⟩ := hn
      obtain ⟨b0, b1⟩ := hB
      go_enter Try.func90, Try.ntmps90
      go_wp2_with (first | (go_at_call 140; refine (isNumber_any _ _).mono ?_; rintro e w1 ⟨rfl, rfl⟩) | (go_at_call 111; refine (isBase_any _ _).mono ?_; rintro e w1 ⟨rfl, rfl⟩) | (go_at_call 91; refine (productRun_l _ _ _ n0 n1 b0 b1).mono ?_; rintro e w1 ⟨u, rfl, hr, hbl⟩; have HB := Lib.hid hbl; have HR := Lib.hid hr; clear hbl hr))
      go_ret2
      exact ⟨_, by rw [hD.out]; rfl, by rw [hR.out]; exact HR.out, HB.out⟩
    · have a2 : decide (Bas b) = false := decide_eq_false hB
      have hR := Lib.hid (show askL pru n b = [] from if_neg (fun h => hB h.2))
      have hD := Lib.hid (okq_no (n := n) (b := b) (fun h => hB h.2))
      clear hn hB
      go_enter Try.func90, Try.ntmps90
      go_wp2_with (first | (go_at_call 140; refine (isNumber_any _ _).mono ?_; rintro e w1 ⟨rfl, rfl⟩) | (go_at_call 111; refine (isBase_any _ _).mono ?_; rintro e w1 ⟨rfl, rfl⟩))
      go_ret2
      exact ⟨_, by rw [hD.out]; rfl, by rw [hR.out]; exact Rd.nil _ _, Below.refl _ _⟩
  · have a1 : decide (Num n) = false := decide_eq_false hn
    have hR := Lib.hid (show askL pru n b = [] from if_neg (fun h => hn h.1))
    have hD := Lib.hid (okq_no (n := n) (b := b) (fun h => hn h.1))
    clear hn
    go_enter Try.func90, Try.ntmps90
    go_wp2_with (first | (go_at_call 140; refine (isNumber_any _ _).mono ?_; rintro e w1 ⟨rfl, rfl⟩) | (go_at_call 111; refine (isBase_any _ _).mono ?_; rintro e w1 ⟨rfl, rfl⟩))
    go_ret2
    exact ⟨_, by rw [hD.out]; rfl, by rw [hR.out]; exact Rd.nil _ _, Below.refl _ _⟩

theorem impl_ProductRun (n b : Int) (w : World) :
    Calls Try.prog 29 #[.int .i64 n, .int .i64 b] w fun e w' => ∃ v, e = .returned (.tuple #[v, .bool (okq n b)]) ∧ Rd w' w.heap.size v (askL pru n b) ∧ Below w.heap.size w w' := by
  go_enter Try.func29, Try.ntmps29
  go_wp2_with (go_at_call 90; refine (tell_productRun _ _ _).mono ?_; rintro e w1 ⟨u, rfl, hr, hbl⟩; have HB := Lib.hid hbl; have HR := Lib.hid hr; clear hbl hr)
  go_ret2
  exact ⟨_, rfl, HR.out, HB.out⟩

theorem spec_ProductRun (n b : Int) (w : World) :
    Calls Try.prog 30 #[.int .i64 n, .int .i64 b] w fun e w' => ∃ v, e = .returned (.tuple #[v, .bool (okq n b)]) ∧ Rd w' w.heap.size v (askL pru n b) ∧ Below w.heap.size w w' := by
  by_cases hq : Num n ∧ Bas b
  · have a1 : decide (Num n ∧ Bas b) = true := decide_eq_true hq
    have hR := Lib.hid (show askL pru n b = pru b n from if_pos hq)
    have hD := Lib.hid (okq_yes hq)
    obtain ⟨⟨n0, n1⟩, b0, b1⟩ := hq
    have hall := Lib.hid (dgs_all b n b0 n0)
    have hlen := Lib.hid (dgs_len40 b n b0 n0 n1)
    go_enter Try.func30, Try.ntmps30
    go_wp2_with (first | (go_at_call 92; refine (dgAsked_any _ _ _).mono ?_; rintro e w1 ⟨rfl, rfl⟩) | (go_at_call 145; refine (dgOf_s _ _ _ n0 n1 b0 b1).mono ?_; rintro e w1 ⟨g, cap, rfl, hr, hbl⟩; have HB := Lib.hid hbl; have HR := Lib.hid hr; clear hbl hr) | (go_at_call 93; refine (prRun_p _ _ _ n0 n1 b0 b1).mono ?_; rintro e w1 ⟨g, cap, rfl, hr, hbl⟩; have HB := Lib.hid hbl; have HR := Lib.hid hr; clear hbl hr))
    go_ret2
    exact ⟨_, by rw [hD.out]; rfl, by rw [hR.out]; exact HR.out, HB.out⟩
  · have a1 : decide (Num n ∧ Bas b) = false := decide_eq_false hq
    have hR := Lib.hid (show askL pru n b = [] from if_neg hq)
    have hD := Lib.hid (okq_no hq)
    clear hq
    go_enter Try.func30, Try.ntmps30
    go_wp2_with (go_at_call 92; refine (dgAsked_any _ _ _).mono ?_; rintro e w1 ⟨rfl, rfl⟩)
    go_ret2
    exact ⟨_, by rw [hD.out]; rfl, by rw [hR.out]; exact Rd.nil _ _, Below.refl _ _⟩

theorem askL_pru_len (n b : Int) : (askL pru n b).length ≤ 2000000 := by
  unfold askL
  split
  · rename_i h; have := pru_len b n h.2.1 h.2.2 h.1.1 h.1.2; omega
  · simp

theorem askL_sru_len (n b : Int) : (askL sru n b).length ≤ 2000000 := by
  unfold askL
  split
  · rename_i h; have := sru_len b n h.2.1 h.2.2 h.1.1 h.1.2; omega
  · simp

end Go.Proofs.Ytgiabadkbfbilaa
