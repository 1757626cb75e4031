/-
  Answers of stage 6 (written by wip/tools/gen_we.py).
-/
import Derived.Test.YtdlohdjejmpmcaaWD
import Derived.Test.YtdlohdjejmpmcaaK
namespace Go.Proofs.Ytdlohdjejmpmcaa
open Go.RowKit
set_option linter.unusedVariables false
set_option linter.unusedSimpArgs false
set_option maxRecDepth 100000

/-- What IsSmooth answers. -/
def RIsSmooth (n b : Int) : Bool := okq n b && smo b n
theorem RIsSmooth_yes {n b : Int} (h : Num n ∧ Bas b) : RIsSmooth n b = smo b n ∧ okq n b = true := by simp [RIsSmooth, okq_yes h]
theorem RIsSmooth_no {n b : Int} (h : ¬ (Num n ∧ Bas b)) : RIsSmooth n b = false ∧ okq n b = false := by simp [RIsSmooth, okq_no h]

/-- What IsHarshad answers. -/
def RIsHarshad (n b : Int) : Bool := okq n b && hsh b n
theorem RIsHarshad_yes {n b : Int} (h : Num n ∧ Bas b) : RIsHarshad n b = hsh b n ∧ okq n b = true := by simp [RIsHarshad, okq_yes h]
theorem RIsHarshad_no {n b : Int} (h : ¬ (Num n ∧ Bas b)) : RIsHarshad n b = false ∧ okq n b = false := by simp [RIsHarshad, okq_no h]

theorem spec_IsHarshad (n b : Int) (w : World) :
    Calls Try.prog 46 #[.int .i64 n, .int .i64 b] w fun e w' => e = .returned (.tuple #[.bool (RIsHarshad n b), .bool (okq n b)]) ∧ Below w.heap.size w w' := by
  by_cases hq : Num n ∧ Bas b
  · have a1 : decide (Num n ∧ Bas b) = true := decide_eq_true hq
    have hD := Lib.hid (RIsHarshad_yes hq)
    obtain ⟨⟨n0, n1⟩, b0, b1⟩ := hq
    have hlen := Lib.hid (dgs_len40 b n b0 n0 n1)
    go_enter Try.func46, Try.ntmps46
    go_wp2_with (first | (go_at_call 56; refine (dgAsked_any _ _ _).mono ?_; rintro e w1 ⟨rfl, rfl⟩) | (go_at_call 91; refine (prHarshad_any _ _ _ n0 n1 b0 b1).mono ?_; rintro e w2 ⟨rfl, hbl2⟩; have HB2 := Lib.hid hbl2; clear hbl2))
    go_ret2
    exact ⟨by rw [hD.out.1, hD.out.2]; rfl, HB2.out⟩
  · have a1 : decide (Num n ∧ Bas b) = false := decide_eq_false hq
    have hD := Lib.hid (RIsHarshad_no hq)
    clear hq
    go_enter Try.func46, Try.ntmps46
    go_wp2_with (go_at_call 56; refine (dgAsked_any _ _ _).mono ?_; rintro e w1 ⟨rfl, rfl⟩)
    go_ret2
    exact ⟨by rw [hD.out.1, hD.out.2]; rfl, Below.refl _ _⟩

theorem tell_isHarshad (n b : Int) (w : World) :
    Calls Try.prog 92 #[.int .i64 n, .int .i64 b, .func (Fn.func 93) #[] #[]] w fun e w' => e = .returned (.tuple #[.bool (RIsHarshad n b), .bool (okq n b)]) ∧ Below w.heap.size w w' := by
  by_cases hn : Num n
  · have a1 : decide (Num n) = true := decide_eq_true hn
    by_cases hB : Bas b
    · have a2 : decide (Bas b) = true := decide_eq_true hB
      have hD := Lib.hid (RIsHarshad_yes ⟨hn, hB⟩)
      obtain ⟨n0, n1⟩ := hn
      obtain ⟨b0, b1⟩ := hB
      go_enter Try.func92, Try.ntmps92
      go_wp2_with (first | (go_at_call 97; refine (isNumber_any _ _).mono ?_; rintro e w1 ⟨rfl, rfl⟩) | (go_at_call 69; refine (isBase_any _ _).mono ?_; rintro e w1 ⟨rfl, rfl⟩) | (go_at_call 93; refine (isHarshad_any _ _ _ n0 n1 b0 b1).mono ?_; rintro e w1 ⟨rfl, hbl⟩; have HB := Lib.hid hbl; clear hbl))
      go_ret2
      exact ⟨by rw [hD.out.1, hD.out.2]; rfl, HB.out⟩
    · have a2 : decide (Bas b) = false := decide_eq_false hB
      have hD := Lib.hid (RIsHarshad_no (n := n) (b := b) (fun h => hB h.2))
      clear hn hB
      go_enter Try.func92, Try.ntmps92
      go_wp2_with (first | (go_at_call 97; refine (isNumber_any _ _).mono ?_; rintro e w1 ⟨rfl, rfl⟩) | (go_at_call 69; refine (isBase_any _ _).mono ?_; rintro e w1 ⟨rfl, rfl⟩))
      go_ret2
      exact ⟨by rw [hD.out.1, hD.out.2]; rfl, Below.refl _ _⟩
  · have a1 : decide (Num n) = false := decide_eq_false hn
    have hD := Lib.hid (RIsHarshad_no (n := n) (b := b) (fun h => hn h.1))
    clear hn
    go_enter Try.func92, Try.ntmps92
    go_wp2_with (first | (go_at_call 97; refine (isNumber_any _ _).mono ?_; rintro e w1 ⟨rfl, rfl⟩) | (go_at_call 69; refine (isBase_any _ _).mono ?_; rintro e w1 ⟨rfl, rfl⟩))
    go_ret2
    exact ⟨by rw [hD.out.1, hD.out.2]; rfl, Below.refl _ _⟩

theorem impl_IsHarshad (n b : Int) (w : World) :
    Calls Try.prog 45 #[.int .i64 n, .int .i64 b] w fun e w' => e = .returned (.tuple #[.bool (RIsHarshad n b), .bool (okq n b)]) ∧ Below w.heap.size w w' := by
  go_enter Try.func45, Try.ntmps45
  go_wp2_with (go_at_call 92; refine (tell_isHarshad _ _ _).mono ?_; rintro e w1 ⟨rfl, hbl⟩; have HB := Lib.hid hbl; clear hbl)
  go_ret2
  exact ⟨rfl, HB.out⟩

/-- What IsZuckerman answers. -/
def RIsZuckerman (n b : Int) : Bool := okq n b && zuk b n
theorem RIsZuckerman_yes {n b : Int} (h : Num n ∧ Bas b) : RIsZuckerman n b = zuk b n ∧ okq n b = true := by simp [RIsZuckerman, okq_yes h]
theorem RIsZuckerman_no {n b : Int} (h : ¬ (Num n ∧ Bas b)) : RIsZuckerman n b = false ∧ okq n b = false := by simp [RIsZuckerman, okq_no h]

theorem spec_IsZuckerman (n b : Int) (w : World) :
    Calls Try.prog 48 #[.int .i64 n, .int .i64 b] w fun e w' => e = .returned (.tuple #[.bool (RIsZuckerman n b), .bool (okq n b)]) ∧ Below w.heap.size w w' := by
  by_cases hq : Num n ∧ Bas b
  · have a1 : decide (Num n ∧ Bas b) = true := decide_eq_true hq
    have hD := Lib.hid (RIsZuckerman_yes hq)
    obtain ⟨⟨n0, n1⟩, b0, b1⟩ := hq
    have hlen := Lib.hid (dgs_len40 b n b0 n0 n1)
    obtain ⟨p, hs⟩ : ∃ p, p = pd b n := ⟨_, rfl⟩
    have hp := pd_lt b n b0 b1 n0 n1
    rw [← hs] at hp
    obtain ⟨p0, p1, _⟩ := hp
    have HP := Lib.hid (show prodW (dgs b n) 1 = p from hs.symm)
    by_cases hn : 0 < p
    · have HS := Lib.hid (zuk_pos hs hn)
      clear hs
      go_enter Try.func48, Try.ntmps48
      go_wp2_with (first | (go_at_call 56; refine (dgAsked_any _ _ _).mono ?_; rintro e w1 ⟨rfl, rfl⟩) | (go_at_call 57; refine (dgOf_s _ _ _ n0 n1 b0 b1).mono ?_; rintro e w1 ⟨g, cap, rfl, hr, hbl⟩; have HB := Lib.hid hbl; have HR := Lib.hid hr; clear hbl hr) | (go_at_call 62; refine (dgProduct_any _ _ _ _ HR.out (by have := hlen.out; omega)).mono ?_; rw [HP.out]; rintro e w2 ⟨rfl, rfl⟩))
      go_ret2
      exact ⟨by rw [hD.out.1, hD.out.2, HS.out]; first | rfl | (simp [Bool.beq_eq_decide_eq]), HB.out⟩
    · have HS := Lib.hid (zuk_no hs hn)
      clear hs
      go_enter Try.func48, Try.ntmps48
      go_wp2_with (first | (go_at_call 56; refine (dgAsked_any _ _ _).mono ?_; rintro e w1 ⟨rfl, rfl⟩) | (go_at_call 57; refine (dgOf_s _ _ _ n0 n1 b0 b1).mono ?_; rintro e w1 ⟨g, cap, rfl, hr, hbl⟩; have HB := Lib.hid hbl; have HR := Lib.hid hr; clear hbl hr) | (go_at_call 62; refine (dgProduct_any _ _ _ _ HR.out (by have := hlen.out; omega)).mono ?_; rw [HP.out]; rintro e w2 ⟨rfl, rfl⟩))
      go_ret2
      exact ⟨by rw [hD.out.1, hD.out.2, HS.out]; first | rfl | (simp [Bool.beq_eq_decide_eq]), HB.out⟩
  · have a1 : decide (Num n ∧ Bas b) = false := decide_eq_false hq
    have hD := Lib.hid (RIsZuckerman_no hq)
    clear hq
    go_enter Try.func48, Try.ntmps48
    go_wp2_with (go_at_call 56; refine (dgAsked_any _ _ _).mono ?_; rintro e w1 ⟨rfl, rfl⟩)
    go_ret2
    exact ⟨by rw [hD.out.1, hD.out.2]; rfl, Below.refl _ _⟩

theorem tell_isZuckerman (n b : Int) (w : World) :
    Calls Try.prog 92 #[.int .i64 n, .int .i64 b, .func (Fn.func 94) #[] #[]] w fun e w' => e = .returned (.tuple #[.bool (RIsZuckerman n b), .bool (okq n b)]) ∧ Below w.heap.size w w' := by
  by_cases hn : Num n
  · have a1 : decide (Num n) = true := decide_eq_true hn
    by_cases hB : Bas b
    · have a2 : decide (Bas b) = true := decide_eq_true hB
      have hD := Lib.hid (RIsZuckerman_yes ⟨hn, hB⟩)
      obtain ⟨n0, n1⟩ := hn
      obtain ⟨b0, b1⟩ := hB
      go_enter Try.func92, Try.ntmps92
      go_wp2_with (first | (go_at_call 97; refine (isNumber_any _ _).mono ?_; rintro e w1 ⟨rfl, rfl⟩) | (go_at_call 69; refine (isBase_any _ _).mono ?_; rintro e w1 ⟨rfl, rfl⟩) | (go_at_call 94; refine (isZuckerman_any _ _ _ n0 n1 b0 b1).mono ?_; rintro e w1 ⟨rfl, hbl⟩; have HB := Lib.hid hbl; clear hbl))
      go_ret2
      exact ⟨by rw [hD.out.1, hD.out.2]; rfl, HB.out⟩
    · have a2 : decide (Bas b) = false := decide_eq_false hB
      have hD := Lib.hid (RIsZuckerman_no (n := n) (b := b) (fun h => hB h.2))
      clear hn hB
      go_enter Try.func92, Try.ntmps92
      go_wp2_with (first | (go_at_call 97; refine (isNumber_any _ _).mono ?_; rintro e w1 ⟨rfl, rfl⟩) | (go_at_call 69; refine (isBase_any _ _).mono ?_; rintro e w1 ⟨rfl, rfl⟩))
      go_ret2
      exact ⟨by rw [hD.out.1, hD.out.2]; rfl, Below.refl _ _⟩
  · have a1 : decide (Num n) = false := decide_eq_false hn
    have hD := Lib.hid (RIsZuckerman_no (n := n) (b := b) (fun h => hn h.1))
    clear hn
    go_enter Try.func92, Try.ntmps92
    go_wp2_with (first | (go_at_call 97; refine (isNumber_any _ _).mono ?_; rintro e w1 ⟨rfl, rfl⟩) | (go_at_call 69; refine (isBase_any _ _).mono ?_; rintro e w1 ⟨rfl, rfl⟩))
    go_ret2
    exact ⟨by rw [hD.out.1, hD.out.2]; rfl, Below.refl _ _⟩

theorem impl_IsZuckerman (n b : Int) (w : World) :
    Calls Try.prog 47 #[.int .i64 n, .int .i64 b] w fun e w' => e = .returned (.tuple #[.bool (RIsZuckerman n b), .bool (okq n b)]) ∧ Below w.heap.size w w' := by
  go_enter Try.func47, Try.ntmps47
  go_wp2_with (go_at_call 92; refine (tell_isZuckerman _ _ _).mono ?_; rintro e w1 ⟨rfl, hbl⟩; have HB := Lib.hid hbl; clear hbl)
  go_ret2
  exact ⟨rfl, HB.out⟩

end Go.Proofs.Ytdlohdjejmpmcaa
