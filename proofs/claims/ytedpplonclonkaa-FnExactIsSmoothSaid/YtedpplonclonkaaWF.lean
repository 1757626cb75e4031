/-
  Answers of stage 6 (written by wip/tools/gen_we.py).
-/
import Derived.Test.YtedpplonclonkaaWD
import Derived.Test.YtedpplonclonkaaK
namespace Go.Proofs.Ytedpplonclonkaa
open Go.RowKit
set_option linter.unusedVariables false
set_option linter.unusedSimpArgs false
set_option maxRecDepth 100000

/-- What IsSmooth answers. -/
def RIsSmooth (n b : Int) : Bool := okq n b && smo b n
theorem RIsSmooth_yes {n b : Int} (h : Num n ∧ Bas b) : RIsSmooth n b = smo b n ∧ okq n b = true := by simp [RIsSmooth, okq_yes h]
theorem RIsSmooth_no {n b : Int} (h : ¬ (Num n ∧ Bas b)) : RIsSmooth n b = false ∧ okq n b = false := by simp [RIsSmooth, okq_no h]

theorem spec_IsSmooth (n b : Int) (w : World) :
    Calls Try.prog 31 #[.int .i64 n, .int .i64 b] w fun e w' => e = .returned (.tuple #[.bool (RIsSmooth n b), .bool (okq n b)]) ∧ Below w.heap.size w w' := by
  by_cases hq : Num n ∧ Bas b
  · have a1 : decide (Num n ∧ Bas b) = true := decide_eq_true hq
    have hD := Lib.hid (RIsSmooth_yes hq)
    obtain ⟨⟨n0, n1⟩, b0, b1⟩ := hq
    have hlen := Lib.hid (dgs_len40 b n b0 n0 n1)
    go_enter Try.func31, Try.ntmps31
    go_wp2_with (first | (go_at_call 51; refine (dgAsked_any _ _ _).mono ?_; rintro e w1 ⟨rfl, rfl⟩) | (go_at_call 59; refine (prSmooth_any _ _ _ n0 n1 b0 b1).mono ?_; rintro e w2 ⟨rfl, rfl⟩; have HB2 := Lib.hid (Below.refl w.heap.size w)))
    go_ret2
    exact ⟨by rw [hD.out.1, hD.out.2]; rfl, HB2.out⟩
  · have a1 : decide (Num n ∧ Bas b) = false := decide_eq_false hq
    have hD := Lib.hid (RIsSmooth_no hq)
    clear hq
    go_enter Try.func31, Try.ntmps31
    go_wp2_with (go_at_call 51; refine (dgAsked_any _ _ _).mono ?_; rintro e w1 ⟨rfl, rfl⟩)
    go_ret2
    exact ⟨by rw [hD.out.1, hD.out.2]; rfl, Below.refl _ _⟩

theorem tell_isSmooth (n b : Int) (w : World) :
    Calls Try.prog 67 #[.int .i64 n, .int .i64 b, .func (Fn.func 68) #[] #[]] w fun e w' => e = .returned (.tuple #[.bool (RIsSmooth n b), .bool (okq n b)]) ∧ Below w.heap.size w w' := by
  by_cases hn : Num n
  · have a1 : decide (Num n) = true := decide_eq_true hn
    by_cases hB : Bas b
    · have a2 : decide (Bas b) = true := decide_eq_true hB
      have hD := Lib.hid (RIsSmooth_yes ⟨hn, hB⟩)
      obtain ⟨n0, n1⟩ := hn
      obtain ⟨b0, b1⟩ := hB
      go_enter Try.func67, Try.ntmps67
      go_wp2_with (first | (go_at_call 89; refine (isNumber_any _ _).mono ?_; rintro e w1 ⟨rfl, rfl⟩) | (go_at_call 72; refine (isBase_any _ _).mono ?_; rintro e w1 ⟨rfl, rfl⟩) | (go_at_call 68; refine (isSmooth_any _ _ _ n0 n1 b0 b1).mono ?_; rintro e w1 ⟨rfl, hbl⟩; have HB := Lib.hid hbl; clear hbl))
      go_ret2
      exact ⟨by rw [hD.out.1, hD.out.2]; rfl, HB.out⟩
    · have a2 : decide (Bas b) = false := decide_eq_false hB
      have hD := Lib.hid (RIsSmooth_no (n := n) (b := b) (fun h => hB h.2))
      clear hn hB
      go_enter Try.func67, Try.ntmps67
      go_wp2_with (first | (go_at_call 89; refine (isNumber_any _ _).mono ?_; rintro e w1 ⟨rfl, rfl⟩) | (go_at_call 72; refine (isBase_any _ _).mono ?_; rintro e w1 ⟨rfl, rfl⟩))
      go_ret2
      exact ⟨by rw [hD.out.1, hD.out.2]; rfl, Below.refl _ _⟩
  · have a1 : decide (Num n) = false := decide_eq_false hn
    have hD := Lib.hid (RIsSmooth_no (n := n) (b := b) (fun h => hn h.1))
    clear hn
    go_enter Try.func67, Try.ntmps67
    go_wp2_with (first | (go_at_call 89; refine (isNumber_any _ _).mono ?_; rintro e w1 ⟨rfl, rfl⟩) | (go_at_call 72; refine (isBase_any _ _).mono ?_; rintro e w1 ⟨rfl, rfl⟩))
    go_ret2
    exact ⟨by rw [hD.out.1, hD.out.2]; rfl, Below.refl _ _⟩

theorem impl_IsSmooth (n b : Int) (w : World) :
    Calls Try.prog 32 #[.int .i64 n, .int .i64 b] w fun e w' => e = .returned (.tuple #[.bool (RIsSmooth n b), .bool (okq n b)]) ∧ Below w.heap.size w w' := by
  go_enter Try.func32, Try.ntmps32
  go_wp2_with (go_at_call 67; refine (tell_isSmooth _ _ _).mono ?_; rintro e w1 ⟨rfl, hbl⟩; have HB := Lib.hid hbl; clear hbl)
  go_ret2
  exact ⟨rfl, HB.out⟩

theorem law_IsSmooth (n b : Int) (w : World) :
    Calls Try.prog 8 #[.int .i64 n, .int .i64 b] w fun e w' => e = .returned (.bool true) ∧ Below w.heap.size w w' := by
  go_enter Try.func8, Try.ntmps8
  go_wp2_with (first | (go_at_call 31; refine (spec_IsSmooth _ _ _).mono ?_; rintro e w1 ⟨rfl, hbl⟩; have HB1 := Lib.hid hbl; clear hbl) | (go_at_call 32; refine (impl_IsSmooth _ _ _).mono ?_; rintro e w2 ⟨rfl, hbl⟩; have HB2 := Lib.hid hbl; clear hbl))
  go_ret
  exact ⟨by simp, Below.step HB1.out HB1.out.size HB2.out⟩

/-- What IsHarshad answers. -/
def RIsHarshad (n b : Int) : Bool := okq n b && hsh b n
theorem RIsHarshad_yes {n b : Int} (h : Num n ∧ Bas b) : RIsHarshad n b = hsh b n ∧ okq n b = true := by simp [RIsHarshad, okq_yes h]
theorem RIsHarshad_no {n b : Int} (h : ¬ (Num n ∧ Bas b)) : RIsHarshad n b = false ∧ okq n b = false := by simp [RIsHarshad, okq_no h]

theorem spec_IsHarshad (n b : Int) (w : World) :
    Calls Try.prog 43 #[.int .i64 n, .int .i64 b] w fun e w' => e = .returned (.tuple #[.bool (RIsHarshad n b), .bool (okq n b)]) ∧ Below w.heap.size w w' := by
  by_cases hq : Num n ∧ Bas b
  · have a1 : decide (Num n ∧ Bas b) = true := decide_eq_true hq
    have hD := Lib.hid (RIsHarshad_yes hq)
    obtain ⟨⟨n0, n1⟩, b0, b1⟩ := hq
    have hlen := Lib.hid (dgs_len40 b n b0 n0 n1)
    go_enter Try.func43, Try.ntmps43
    go_wp2_with (first | (go_at_call 51; refine (dgAsked_any _ _ _).mono ?_; rintro e w1 ⟨rfl, rfl⟩) | (go_at_call 78; refine (prHarshad_any _ _ _ n0 n1 b0 b1).mono ?_; rintro e w2 ⟨rfl, hbl2⟩; have HB2 := Lib.hid hbl2; clear hbl2))
    go_ret2
    exact ⟨by rw [hD.out.1, hD.out.2]; rfl, HB2.out⟩
  · have a1 : decide (Num n ∧ Bas b) = false := decide_eq_false hq
    have hD := Lib.hid (RIsHarshad_no hq)
    clear hq
    go_enter Try.func43, Try.ntmps43
    go_wp2_with (go_at_call 51; refine (dgAsked_any _ _ _).mono ?_; rintro e w1 ⟨rfl, rfl⟩)
    go_ret2
    exact ⟨by rw [hD.out.1, hD.out.2]; rfl, Below.refl _ _⟩

theorem tell_isHarshad (n b : Int) (w : World) :
    Calls Try.prog 67 #[.int .i64 n, .int .i64 b, .func (Fn.func 79) #[] #[]] w fun e w' => e = .returned (.tuple #[.bool (RIsHarshad n b), .bool (okq n b)]) ∧ Below w.heap.size w w' := by
  by_cases hn : Num n
  · have a1 : decide (Num n) = true := decide_eq_true hn
    by_cases hB : Bas b
    · have a2 : decide (Bas b) = true := decide_eq_true hB
      have hD := Lib.hid (RIsHarshad_yes ⟨hn, hB⟩)
      obtain ⟨n0, n1⟩ := hn
      obtain ⟨b0, b1⟩ := hB
      go_enter Try.func67, Try.ntmps67
      go_wp2_with (first | (go_at_call 89; refine (isNumber_any _ _).mono ?_; rintro e w1 ⟨rfl, rfl⟩) | (go_at_call 72; refine (isBase_any _ _).mono ?_; rintro e w1 ⟨rfl, rfl⟩) | (go_at_call 79; refine (isHarshad_any _ _ _ n0 n1 b0 b1).mono ?_; rintro e w1 ⟨rfl, hbl⟩; have HB := Lib.hid hbl; clear hbl))
      go_ret2
      exact ⟨by rw [hD.out.1, hD.out.2]; rfl, HB.out⟩
    · have a2 : decide (Bas b) = false := decide_eq_false hB
      have hD := Lib.hid (RIsHarshad_no (n := n) (b := b) (fun h => hB h.2))
      clear hn hB
      go_enter Try.func67, Try.ntmps67
      go_wp2_with (first | (go_at_call 89; refine (isNumber_any _ _).mono ?_; rintro e w1 ⟨rfl, rfl⟩) | (go_at_call 72; refine (isBase_any _ _).mono ?_; rintro e w1 ⟨rfl, rfl⟩))
      go_ret2
      exact ⟨by rw [hD.out.1, hD.out.2]; rfl, Below.refl _ _⟩
  · have a1 : decide (Num n) = false := decide_eq_false hn
    have hD := Lib.hid (RIsHarshad_no (n := n) (b := b) (fun h => hn h.1))
    clear hn
    go_enter Try.func67, Try.ntmps67
    go_wp2_with (first | (go_at_call 89; refine (isNumber_any _ _).mono ?_; rintro e w1 ⟨rfl, rfl⟩) | (go_at_call 72; refine (isBase_any _ _).mono ?_; rintro e w1 ⟨rfl, rfl⟩))
    go_ret2
    exact ⟨by rw [hD.out.1, hD.out.2]; rfl, Below.refl _ _⟩

theorem impl_IsHarshad (n b : Int) (w : World) :
    Calls Try.prog 44 #[.int .i64 n, .int .i64 b] w fun e w' => e = .returned (.tuple #[.bool (RIsHarshad n b), .bool (okq n b)]) ∧ Below w.heap.size w w' := by
  go_enter Try.func44, Try.ntmps44
  go_wp2_with (go_at_call 67; refine (tell_isHarshad _ _ _).mono ?_; rintro e w1 ⟨rfl, hbl⟩; have HB := Lib.hid hbl; clear hbl)
  go_ret2
  exact ⟨rfl, HB.out⟩

theorem law_IsHarshad (n b : Int) (w : World) :
    Calls Try.prog 14 #[.int .i64 n, .int .i64 b] w fun e w' => e = .returned (.bool true) ∧ Below w.heap.size w w' := by
  go_enter Try.func14, Try.ntmps14
  go_wp2_with (first | (go_at_call 43; refine (spec_IsHarshad _ _ _).mono ?_; rintro e w1 ⟨rfl, hbl⟩; have HB1 := Lib.hid hbl; clear hbl) | (go_at_call 44; refine (impl_IsHarshad _ _ _).mono ?_; rintro e w2 ⟨rfl, hbl⟩; have HB2 := Lib.hid hbl; clear hbl))
  go_ret
  exact ⟨by simp, Below.step HB1.out HB1.out.size HB2.out⟩

/-- What IsZuckerman answers. -/
def RIsZuckerman (n b : Int) : Bool := okq n b && zuk b n
theorem RIsZuckerman_yes {n b : Int} (h : Num n ∧ Bas b) : RIsZuckerman n b = zuk b n ∧ okq n b = true := by simp [RIsZuckerman, okq_yes h]
theorem RIsZuckerman_no {n b : Int} (h : ¬ (Num n ∧ Bas b)) : RIsZuckerman n b = false ∧ okq n b = false := by simp [RIsZuckerman, okq_no h]

theorem spec_IsZuckerman (n b : Int) (w : World) :
    Calls Try.prog 47 #[.int .i64 n, .int .i64 b] w fun e w' => e = .returned (.tuple #[.bool (RIsZuckerman n b), .bool (okq n b)]) ∧ Below w.heap.size w w' := by
  by_cases hq : Num n ∧ Bas b
  · have a1 : decide (Num n ∧ Bas b) = true := decide_eq_true hq
    have hD := Lib.hid (RIsZuckerman_yes hq)
    obtain ⟨⟨n0, n1⟩, b0, b1⟩ := hq
    have hlen := Lib.hid (dgs_len40 b n b0 n0 n1)
    obtain ⟨p, hs⟩ : ∃ p, p = pd b n := ⟨_, rfl⟩
    have hp := pd_lt b n b0 b1 n0 n1
    rw [← hs] at hp
    obtain ⟨p0, p1, _⟩ := hp
    have HP := Lib.hid (show prodW (dgs b n) 1 = p from hs.symm)
    by_cases hn : 0 < p
    · have HS := Lib.hid (zuk_pos hs hn)
      clear hs
      go_enter Try.func47, Try.ntmps47
      go_wp2_with (first | (go_at_call 51; refine (dgAsked_any _ _ _).mono ?_; rintro e w1 ⟨rfl, rfl⟩) | (go_at_call 82; refine (dgOf_s _ _ _ n0 n1 b0 b1).mono ?_; rintro e w1 ⟨g, cap, rfl, hr, hbl⟩; have HB := Lib.hid hbl; have HR := Lib.hid hr; clear hbl hr) | (go_at_call 81; refine (dgProduct_any _ _ _ _ HR.out (by have := hlen.out; omega)).mono ?_; rw [HP.out]; rintro e w2 ⟨rfl, rfl⟩))
      go_ret2
      exact ⟨by rw [hD.out.1, hD.out.2, HS.out]; first | rfl | (simp [Bool.beq_eq_decide_eq]), HB.out⟩
    · have HS := Lib.hid (zuk_no hs hn)
      clear hs
      go_enter Try.func47, Try.ntmps47
      go_wp2_with (first | (go_at_call 51; refine (dgAsked_any _ _ _).mono ?_; rintro e w1 ⟨rfl, rfl⟩) | (go_at_call 82; refine (dgOf_s _ _ _ n0 n1 b0 b1).mono ?_; rintro e w1 ⟨g, cap, rfl, hr, hbl⟩; have HB := Lib.hid hbl; have HR := Lib.hid hr; clear hbl hr) | (go_at_call 81; refine (dgProduct_any _ _ _ _ HR.out (by have := hlen.out; omega)).mono ?_; rw [HP.out]; rintro e w2 ⟨rfl, rfl⟩))
      go_ret2
      exact ⟨by rw [hD.out.1, hD.out.2, HS.out]; first | rfl | (simp [Bool.beq_eq_decide_eq]), HB.out⟩
  · have a1 : decide (Num n ∧ Bas b) = false := decide_eq_false hq
    have hD := Lib.hid (RIsZuckerman_no hq)
    clear hq
    go_enter Try.func47, Try.ntmps47
    go_wp2_with (go_at_call 51; refine (dgAsked_any _ _ _).mono ?_; rintro e w1 ⟨rfl, rfl⟩)
    go_ret2
    exact ⟨by rw [hD.out.1, hD.out.2]; rfl, Below.refl _ _⟩

theorem tell_isZuckerman (n b : Int) (w : World) :
    Calls Try.prog 67 #[.int .i64 n, .int .i64 b, .func (Fn.func 83) #[] #[]] w fun e w' => e = .returned (.tuple #[.bool (RIsZuckerman n b), .bool (okq n b)]) ∧ Below w.heap.size w w' := by
  by_cases hn : Num n
  · have a1 : decide (Num n) = true := decide_eq_true hn
    by_cases hB : Bas b
    · have a2 : decide (Bas b) = true := decide_eq_true hB
      have hD := Lib.hid (RIsZuckerman_yes ⟨hn, hB⟩)
      obtain ⟨n0, n1⟩ := hn
      obtain ⟨b0, b1⟩ := hB
      go_enter Try.func67, Try.ntmps67
      go_wp2_with (first | (go_at_call 89; refine (isNumber_any _ _).mono ?_; rintro e w1 ⟨rfl, rfl⟩) | (go_at_call 72; refine (isBase_any _ _).mono ?_; rintro e w1 ⟨rfl, rfl⟩) | (go_at_call 83; refine (isZuckerman_any _ _ _ n0 n1 b0 b1).mono ?_; rintro e w1 ⟨rfl, hbl⟩; have HB := Lib.hid hbl; clear hbl))
      go_ret2
      exact ⟨by rw [hD.out.1, hD.out.2]; rfl, HB.out⟩
    · have a2 : decide (Bas b) = false := decide_eq_false hB
      have hD := Lib.hid (RIsZuckerman_no (n := n) (b := b) (fun h => hB h.2))
      clear hn hB
      go_enter Try.func67, Try.ntmps67
      go_wp2_with (first | (go_at_call 89; refine (isNumber_any _ _).mono ?_; rintro e w1 ⟨rfl, rfl⟩) | (go_at_call 72; refine (isBase_any _ _).mono ?_; rintro e w1 ⟨rfl, rfl⟩))
      go_ret2
      exact ⟨by rw [hD.out.1, hD.out.2]; rfl, Below.refl _ _⟩
  · have a1 : decide (Num n) = false := decide_eq_false hn
    have hD := Lib.hid (RIsZuckerman_no (n := n) (b := b) (fun h => hn h.1))
    clear hn
    go_enter Try.func67, Try.ntmps67
    go_wp2_with (first | (go_at_call 89; refine (isNumber_any _ _).mono ?_; rintro e w1 ⟨rfl, rfl⟩) | (go_at_call 72; refine (isBase_any _ _).mono ?_; rintro e w1 ⟨rfl, rfl⟩))
    go_ret2
    exact ⟨by rw [hD.out.1, hD.out.2]; rfl, Below.refl _ _⟩

theorem impl_IsZuckerman (n b : Int) (w : World) :
    Calls Try.prog 48 #[.int .i64 n, .int .i64 b] w fun e w' => e = .returned (.tuple #[.bool (RIsZuckerman n b), .bool (okq n b)]) ∧ Below w.heap.size w w' := by
  go_enter Try.func48, Try.ntmps48
  go_wp2_with (go_at_call 67; refine (tell_isZuckerman _ _ _).mono ?_; rintro e w1 ⟨rfl, hbl⟩; have HB := Lib.hid hbl; clear hbl)
  go_ret2
  exact ⟨rfl, HB.out⟩

theorem law_IsZuckerman (n b : Int) (w : World) :
    Calls Try.prog 16 #[.int .i64 n, .int .i64 b] w fun e w' => e = .returned (.bool true) ∧ Below w.heap.size w w' := by
  go_enter Try.func16, Try.ntmps16
  go_wp2_with (first | (go_at_call 47; refine (spec_IsZuckerman _ _ _).mono ?_; rintro e w1 ⟨rfl, hbl⟩; have HB1 := Lib.hid hbl; clear hbl) | (go_at_call 48; refine (impl_IsZuckerman _ _ _).mono ?_; rintro e w2 ⟨rfl, hbl⟩; have HB2 := Lib.hid hbl; clear hbl))
  go_ret
  exact ⟨by simp, Below.step HB1.out HB1.out.size HB2.out⟩


end Go.Proofs.Ytedpplonclonkaa
