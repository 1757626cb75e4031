/-
  Answers: power sums, where numbers fall, the greatest sum.
-/
import Derived.Test.YtnniiobiedfmoaaUD
import Derived.Test.YtnniiobiedfmoaaUE
namespace Go.Proofs.Ytnniiobiedfmoaa
open Go.RowKit
set_option linter.unusedVariables false
set_option linter.unusedSimpArgs false
set_option maxRecDepth 100000

def OK3 (n b p m : Int) : Bool := decide (Num n ∧ Bas b ∧ Pow p m)
theorem OK3_yes {n b p m : Int} (h1 : Num n) (h2 : Bas b) (h3 : Pow p m) : OK3 n b p m = true := decide_eq_true ⟨h1, h2, h3⟩
theorem OK3_no {n b p m : Int} (h : ¬ (Num n ∧ Bas b ∧ Pow p m)) : OK3 n b p m = false := decide_eq_false h
def OK2 (b p m : Int) : Bool := decide (Bas b ∧ Pow p m)
theorem OK2_yes {b p m : Int} (h2 : Bas b) (h3 : Pow p m) : OK2 b p m = true := decide_eq_true ⟨h2, h3⟩
theorem OK2_no {b p m : Int} (h : ¬ (Bas b ∧ Pow p m)) : OK2 b p m = false := decide_eq_false h

def V_PowerSum (n b p : Int) : Int := if OK3 n b p 8 = true then ((ps b.toNat p.toNat n.toNat : Nat) : Int) else 0
abbrev R_PowerSum (n b p : Int) : Value := .tuple #[.int .i64 (V_PowerSum n b p), .bool (OK3 n b p 8)]
def V_FallsFrom (b p : Int) : Int := if OK2 b p 8 = true then ((ff b.toNat p.toNat : Nat) : Int) else 0
abbrev R_FallsFrom (b p : Int) : Value := .tuple #[.int .i64 (V_FallsFrom b p), .bool (OK2 b p 8)]
def V_GreatestSum (b p : Int) : Int := if OK2 b p 8 = true then ((gs b.toNat p.toNat : Nat) : Int) else 0
abbrev R_GreatestSum (b p : Int) : Value := .tuple #[.int .i64 (V_GreatestSum b p), .bool (OK2 b p 8)]

theorem spec_PowerSum (n b p : Int) (w : World) :
    Calls Try.prog 24 #[.int .i64 n, .int .i64 b, .int .i64 p] w fun e w' => e = .returned (R_PowerSum n b p) ∧ Below w.heap.size w w' := by
  by_cases hq : Num n ∧ Bas b
  · have a1 : decide (Num n ∧ Bas b) = true := decide_eq_true hq
    by_cases hp : Pow p 8
    · have a2 : decide (Pow p 8) = true := decide_eq_true hp
      have HO := Lib.hid (OK3_yes hq.1 hq.2 hp)
      obtain ⟨⟨n0, n1⟩, b0, b1⟩ := hq
      obtain ⟨p0, p1⟩ := hp
      obtain ⟨N, rfl⟩ : ∃ N : Nat, n = (N : Int) := ⟨n.toNat, by omega⟩
      obtain ⟨B, rfl⟩ : ∃ B : Nat, b = (B : Int) := ⟨b.toNat, by omega⟩
      obtain ⟨P, rfl⟩ : ∃ P : Nat, p = (P : Int) := ⟨p.toNat, by omega⟩
      have HV := Lib.hid (show V_PowerSum (N : Int) (B : Int) (P : Int) = ((ps B P N : Nat) : Int) by unfold V_PowerSum; rw [if_pos HO.out]; rfl)
      go_enter Try.func24, Try.ntmps24
      go_wp2_with (first | (go_at_call 41; refine (dgAsked_any _ _ _).mono ?_; rintro e w1 ⟨rfl, rfl⟩) | (go_at_call 42; refine (pwPower_any _ _ _).mono ?_; rintro e w1 ⟨rfl, rfl⟩) | (go_at_call 62; refine (pwSum_any N B P _ (by omega) (by omega) (by omega) (by omega)).mono ?_; rintro e w1 ⟨rfl, rfl⟩))
      go_ret2
      exact ⟨by unfold R_PowerSum; rw [HV.out, HO.out]; rfl, Below.refl _ _⟩
    · have a2 : decide (Pow p 8) = false := decide_eq_false hp
      have HO := Lib.hid (OK3_no (n := n) (b := b) (fun h => hp h.2.2))
      have HV := Lib.hid (show V_PowerSum n b p = 0 by unfold V_PowerSum; rw [HO.out]; rfl)
      clear hq hp
      go_enter Try.func24, Try.ntmps24
      go_wp2_with (first | (go_at_call 41; refine (dgAsked_any _ _ _).mono ?_; rintro e w1 ⟨rfl, rfl⟩) | (go_at_call 42; refine (pwPower_any _ _ _).mono ?_; rintro e w1 ⟨rfl, rfl⟩))
      go_ret2
      exact ⟨by unfold R_PowerSum; rw [HV.out, HO.out]; rfl, Below.refl _ _⟩
  · have a1 : decide (Num n ∧ Bas b) = false := decide_eq_false hq
    have HO := Lib.hid (OK3_no (p := p) (m := 8) (fun h => hq ⟨h.1, h.2.1⟩))
    have HV := Lib.hid (show V_PowerSum n b p = 0 by unfold V_PowerSum; rw [HO.out]; rfl)
    clear hq
    go_enter Try.func24, Try.ntmps24
    go_wp2_with (go_at_call 41; refine (dgAsked_any _ _ _).mono ?_; rintro e w1 ⟨rfl, rfl⟩)
    go_ret2
    exact ⟨by unfold R_PowerSum; rw [HV.out, HO.out]; rfl, Below.refl _ _⟩

theorem impl_PowerSum (n b p : Int) (w : World) :
    Calls Try.prog 16 #[.int .i64 n, .int .i64 b, .int .i64 p] w fun e w' => e = .returned (R_PowerSum n b p) ∧ Below w.heap.size w w' := by
  by_cases hn : Num n
  · have a1 : decide (Num n) = true := decide_eq_true hn
    by_cases hb : Bas b
    · have a2 : decide (Bas b) = true := decide_eq_true hb
      by_cases hp : Pow p 8
      · have a3 : decide (Pow p 8) = true := decide_eq_true hp
        have HO := Lib.hid (OK3_yes hn hb hp)
        obtain ⟨n0, n1⟩ := hn
        obtain ⟨b0, b1⟩ := hb
        obtain ⟨p0, p1⟩ := hp
        obtain ⟨N, rfl⟩ : ∃ N : Nat, n = (N : Int) := ⟨n.toNat, by omega⟩
        obtain ⟨B, rfl⟩ : ∃ B : Nat, b = (B : Int) := ⟨b.toNat, by omega⟩
        obtain ⟨P, rfl⟩ : ∃ P : Nat, p = (P : Int) := ⟨p.toNat, by omega⟩
        have HV := Lib.hid (show V_PowerSum (N : Int) (B : Int) (P : Int) = ((ps B P N : Nat) : Int) by unfold V_PowerSum; rw [if_pos HO.out]; rfl)
        go_enter Try.func16, Try.ntmps16
        go_wp2_with (first | (go_at_call 47; refine (isNumber_any _ _).mono ?_; rintro e w1 ⟨rfl, rfl⟩) | (go_at_call 48; refine (isBase_any _ _).mono ?_; rintro e w1 ⟨rfl, rfl⟩) | (go_at_call 49; refine (isPower_any _ _ _).mono ?_; rintro e w1 ⟨rfl, rfl⟩))
        refine (powersOf_any B P _ (by omega) (by omega) (by omega) (by omega)).mono ?_
        rintro e w1 ⟨g, c, rfl, hg, hT, hB⟩
        have HT := Lib.hid hT
        have HB := Lib.hid hB
        clear hg hT hB
        go_wp2_with fail
        refine (sumP_any g c B P N _ HT.out (by omega) (by omega) (by omega) (by omega) (by omega)).mono ?_
        rintro e w2 ⟨rfl, hb⟩
        have HB2 := Lib.hid (Below.step HB.out HB.out.size hb)
        clear hb
        go_wp2
        go_ret2
        exact ⟨by unfold R_PowerSum; rw [HV.out, HO.out]; rfl, HB2.out⟩
      · have a3 : decide (Pow p 8) = false := decide_eq_false hp
        have HO := Lib.hid (OK3_no (n := n) (b := b) (fun h => hp h.2.2))
        have HV := Lib.hid (show V_PowerSum n b p = 0 by unfold V_PowerSum; rw [HO.out]; rfl)
        clear hn hb hp
        go_enter Try.func16, Try.ntmps16
        go_wp2_with (first | (go_at_call 47; refine (isNumber_any _ _).mono ?_; rintro e w1 ⟨rfl, rfl⟩) | (go_at_call 48; refine (isBase_any _ _).mono ?_; rintro e w1 ⟨rfl, rfl⟩) | (go_at_call 49; refine (isPower_any _ _ _).mono ?_; rintro e w1 ⟨rfl, rfl⟩))
        go_ret2
        exact ⟨by unfold R_PowerSum; rw [HV.out, HO.out]; rfl, Below.refl _ _⟩
    · have a2 : decide (Bas b) = false := decide_eq_false hb
      have HO := Lib.hid (OK3_no (n := n) (p := p) (m := 8) (fun h => hb h.2.1))
      have HV := Lib.hid (show V_PowerSum n b p = 0 by unfold V_PowerSum; rw [HO.out]; rfl)
      clear hn hb
      go_enter Try.func16, Try.ntmps16
      go_wp2_with (first | (go_at_call 47; refine (isNumber_any _ _).mono ?_; rintro e w1 ⟨rfl, rfl⟩) | (go_at_call 48; refine (isBase_any _ _).mono ?_; rintro e w1 ⟨rfl, rfl⟩))
      go_ret2
      exact ⟨by unfold R_PowerSum; rw [HV.out, HO.out]; rfl, Below.refl _ _⟩
  · have a1 : decide (Num n) = false := decide_eq_false hn
    have HO := Lib.hid (OK3_no (b := b) (p := p) (m := 8) (fun h => hn h.1))
    have HV := Lib.hid (show V_PowerSum n b p = 0 by unfold V_PowerSum; rw [HO.out]; rfl)
    clear hn
    go_enter Try.func16, Try.ntmps16
    go_wp2_with (go_at_call 47; refine (isNumber_any _ _).mono ?_; rintro e w1 ⟨rfl, rfl⟩)
    go_ret2
    exact ⟨by unfold R_PowerSum; rw [HV.out, HO.out]; rfl, Below.refl _ _⟩

theorem spec_FallsFrom (b p : Int) (w : World) :
    Calls Try.prog 21 #[.int .i64 b, .int .i64 p] w fun e w' => e = .returned (R_FallsFrom b p) ∧ Below w.heap.size w w' := by
  by_cases hb : Bas b
  · have a1 : decide (Bas b) = true := decide_eq_true hb
    by_cases hp : Pow p 8
    · have a2 : decide (Pow p 8) = true := decide_eq_true hp
      have HO := Lib.hid (OK2_yes hb hp)
      obtain ⟨b0, b1⟩ := hb
      obtain ⟨p0, p1⟩ := hp
      obtain ⟨B, rfl⟩ : ∃ B : Nat, b = (B : Int) := ⟨b.toNat, by omega⟩
      obtain ⟨P, rfl⟩ : ∃ P : Nat, p = (P : Int) := ⟨p.toNat, by omega⟩
      have HV := Lib.hid (show V_FallsFrom (B : Int) (P : Int) = ((ff B P : Nat) : Int) by unfold V_FallsFrom; rw [if_pos HO.out]; rfl)
      go_enter Try.func21, Try.ntmps21
      go_wp2_with (first | (go_at_call 58; refine (dgBase_any _ _).mono ?_; rintro e w1 ⟨rfl, rfl⟩) | (go_at_call 42; refine (pwPower_any _ _ _).mono ?_; rintro e w1 ⟨rfl, rfl⟩) | (go_at_call 59; refine (pwFalls_any B P _ (by omega) (by omega) (by omega) (by omega)).mono ?_; rintro e w1 ⟨rfl, rfl⟩))
      go_ret2
      exact ⟨by unfold R_FallsFrom; rw [HV.out, HO.out]; rfl, Below.refl _ _⟩
    · have a2 : decide (Pow p 8) = false := decide_eq_false hp
      have HO := Lib.hid (OK2_no (b := b) (fun h => hp h.2))
      have HV := Lib.hid (show V_FallsFrom b p = 0 by unfold V_FallsFrom; rw [HO.out]; rfl)
      clear hb hp
      go_enter Try.func21, Try.ntmps21
      go_wp2_with (first | (go_at_call 58; refine (dgBase_any _ _).mono ?_; rintro e w1 ⟨rfl, rfl⟩) | (go_at_call 42; refine (pwPower_any _ _ _).mono ?_; rintro e w1 ⟨rfl, rfl⟩))
      go_ret2
      exact ⟨by unfold R_FallsFrom; rw [HV.out, HO.out]; rfl, Below.refl _ _⟩
  · have a1 : decide (Bas b) = false := decide_eq_false hb
    have HO := Lib.hid (OK2_no (p := p) (m := 8) (fun h => hb h.1))
    have HV := Lib.hid (show V_FallsFrom b p = 0 by unfold V_FallsFrom; rw [HO.out]; rfl)
    clear hb
    go_enter Try.func21, Try.ntmps21
    go_wp2_with (first | (go_at_call 58; refine (dgBase_any _ _).mono ?_; rintro e w1 ⟨rfl, rfl⟩) | (go_at_call 42; refine (pwPower_any _ _ _).mono ?_; rintro e w1 ⟨rfl, rfl⟩))
    go_ret2
    exact ⟨by unfold R_FallsFrom; rw [HV.out, HO.out]; rfl, Below.refl _ _⟩

theorem impl_FallsFrom (b p : Int) (w : World) :
    Calls Try.prog 20 #[.int .i64 b, .int .i64 p] w fun e w' => e = .returned (R_FallsFrom b p) ∧ Below w.heap.size w w' := by
  by_cases hb : Bas b
  · have a1 : decide (Bas b) = true := decide_eq_true hb
    by_cases hp : Pow p 8
    · have a2 : decide (Pow p 8) = true := decide_eq_true hp
      have HO := Lib.hid (OK2_yes hb hp)
      obtain ⟨b0, b1⟩ := hb
      obtain ⟨p0, p1⟩ := hp
      obtain ⟨B, rfl⟩ : ∃ B : Nat, b = (B : Int) := ⟨b.toNat, by omega⟩
      obtain ⟨P, rfl⟩ : ∃ P : Nat, p = (P : Int) := ⟨p.toNat, by omega⟩
      have HV := Lib.hid (show V_FallsFrom (B : Int) (P : Int) = ((ff B P : Nat) : Int) by unfold V_FallsFrom; rw [if_pos HO.out]; rfl)
      go_enter Try.func20, Try.ntmps20
      go_wp2_with (first | (go_at_call 48; refine (isBase_any _ _).mono ?_; rintro e w1 ⟨rfl, rfl⟩) | (go_at_call 49; refine (isPower_any _ _ _).mono ?_; rintro e w1 ⟨rfl, rfl⟩))
      refine (powersOf_any B P _ (by omega) (by omega) (by omega) (by omega)).mono ?_
      rintro e w1 ⟨g, c, rfl, hg, hT, hB⟩
      have HT := Lib.hid hT
      have HB := Lib.hid hB
      clear hg hT hB
      go_wp2_with fail
      refine (fallsP_any g c B P _ HT.out (by omega) (by omega) (by omega) (by omega)).mono ?_
      rintro e w2 ⟨rfl, rfl⟩
      go_wp2
      go_ret2
      exact ⟨by unfold R_FallsFrom; rw [HV.out, HO.out]; rfl, HB.out⟩
    · have a2 : decide (Pow p 8) = false := decide_eq_false hp
      have HO := Lib.hid (OK2_no (b := b) (fun h => hp h.2))
      have HV := Lib.hid (show V_FallsFrom b p = 0 by unfold V_FallsFrom; rw [HO.out]; rfl)
      clear hb hp
      go_enter Try.func20, Try.ntmps20
      go_wp2_with (first | (go_at_call 48; refine (isBase_any _ _).mono ?_; rintro e w1 ⟨rfl, rfl⟩) | (go_at_call 49; refine (isPower_any _ _ _).mono ?_; rintro e w1 ⟨rfl, rfl⟩))
      go_ret2
      exact ⟨by unfold R_FallsFrom; rw [HV.out, HO.out]; rfl, Below.refl _ _⟩
  · have a1 : decide (Bas b) = false := decide_eq_false hb
    have HO := Lib.hid (OK2_no (p := p) (m := 8) (fun h => hb h.1))
    have HV := Lib.hid (show V_FallsFrom b p = 0 by unfold V_FallsFrom; rw [HO.out]; rfl)
    clear hb
    go_enter Try.func20, Try.ntmps20
    go_wp2_with (first | (go_at_call 48; refine (isBase_any _ _).mono ?_; rintro e w1 ⟨rfl, rfl⟩) | (go_at_call 49; refine (isPower_any _ _ _).mono ?_; rintro e w1 ⟨rfl, rfl⟩))
    go_ret2
    exact ⟨by unfold R_FallsFrom; rw [HV.out, HO.out]; rfl, Below.refl _ _⟩

theorem spec_GreatestSum (b p : Int) (w : World) :
    Calls Try.prog 22 #[.int .i64 b, .int .i64 p] w fun e w' => e = .returned (R_GreatestSum b p) ∧ Below w.heap.size w w' := by
  by_cases hb : Bas b
  · have a1 : decide (Bas b) = true := decide_eq_true hb
    by_cases hp : Pow p 8
    · have a2 : decide (Pow p 8) = true := decide_eq_true hp
      have HO := Lib.hid (OK2_yes hb hp)
      obtain ⟨b0, b1⟩ := hb
      obtain ⟨p0, p1⟩ := hp
      obtain ⟨B, rfl⟩ : ∃ B : Nat, b = (B : Int) := ⟨b.toNat, by omega⟩
      obtain ⟨P, rfl⟩ : ∃ P : Nat, p = (P : Int) := ⟨p.toNat, by omega⟩
      have HV := Lib.hid (show V_GreatestSum (B : Int) (P : Int) = ((gs B P : Nat) : Int) by unfold V_GreatestSum; rw [if_pos HO.out]; rfl)
      go_enter Try.func22, Try.ntmps22
      go_wp2_with (first | (go_at_call 58; refine (dgBase_any _ _).mono ?_; rintro e w1 ⟨rfl, rfl⟩) | (go_at_call 42; refine (pwPower_any _ _ _).mono ?_; rintro e w1 ⟨rfl, rfl⟩) | (go_at_call 60; refine (pwGreatest_any B P _ (by omega) (by omega) (by omega) (by omega)).mono ?_; rintro e w1 ⟨rfl, rfl⟩))
      go_ret2
      exact ⟨by unfold R_GreatestSum; rw [HV.out, HO.out]; rfl, Below.refl _ _⟩
    · have a2 : decide (Pow p 8) = false := decide_eq_false hp
      have HO := Lib.hid (OK2_no (b := b) (fun h => hp h.2))
      have HV := Lib.hid (show V_GreatestSum b p = 0 by unfold V_GreatestSum; rw [HO.out]; rfl)
      clear hb hp
      go_enter Try.func22, Try.ntmps22
      go_wp2_with (first | (go_at_call 58; refine (dgBase_any _ _).mono ?_; rintro e w1 ⟨rfl, rfl⟩) | (go_at_call 42; refine (pwPower_any _ _ _).mono ?_; rintro e w1 ⟨rfl, rfl⟩))
      go_ret2
      exact ⟨by unfold R_GreatestSum; rw [HV.out, HO.out]; rfl, Below.refl _ _⟩
  · have a1 : decide (Bas b) = false := decide_eq_false hb
    have HO := Lib.hid (OK2_no (p := p) (m := 8) (fun h => hb h.1))
    have HV := Lib.hid (show V_GreatestSum b p = 0 by unfold V_GreatestSum; rw [HO.out]; rfl)
    clear hb
    go_enter Try.func22, Try.ntmps22
    go_wp2_with (first | (go_at_call 58; refine (dgBase_any _ _).mono ?_; rintro e w1 ⟨rfl, rfl⟩) | (go_at_call 42; refine (pwPower_any _ _ _).mono ?_; rintro e w1 ⟨rfl, rfl⟩))
    go_ret2
    exact ⟨by unfold R_GreatestSum; rw [HV.out, HO.out]; rfl, Below.refl _ _⟩

theorem impl_GreatestSum (b p : Int) (w : World) :
    Calls Try.prog 17 #[.int .i64 b, .int .i64 p] w fun e w' => e = .returned (R_GreatestSum b p) ∧ Below w.heap.size w w' := by
  by_cases hb : Bas b
  · have a1 : decide (Bas b) = true := decide_eq_true hb
    by_cases hp : Pow p 8
    · have a2 : decide (Pow p 8) = true := decide_eq_true hp
      have HO := Lib.hid (OK2_yes hb hp)
      obtain ⟨b0, b1⟩ := hb
      obtain ⟨p0, p1⟩ := hp
      obtain ⟨B, rfl⟩ : ∃ B : Nat, b = (B : Int) := ⟨b.toNat, by omega⟩
      obtain ⟨P, rfl⟩ : ∃ P : Nat, p = (P : Int) := ⟨p.toNat, by omega⟩
      have HV := Lib.hid (show V_GreatestSum (B : Int) (P : Int) = ((gs B P : Nat) : Int) by unfold V_GreatestSum; rw [if_pos HO.out]; rfl)
      go_enter Try.func17, Try.ntmps17
      go_wp2_with (first | (go_at_call 48; refine (isBase_any _ _).mono ?_; rintro e w1 ⟨rfl, rfl⟩) | (go_at_call 49; refine (isPower_any _ _ _).mono ?_; rintro e w1 ⟨rfl, rfl⟩))
      refine (powersOf_any B P _ (by omega) (by omega) (by omega) (by omega)).mono ?_
      rintro e w1 ⟨g, c, rfl, hg, hT, hB⟩
      have HT := Lib.hid hT
      have HB := Lib.hid hB
      clear hg hT hB
      go_wp2_with fail
      refine (greatestP_any g c B P _ HT.out (by omega) (by omega) (by omega) (by omega)).mono ?_
      rintro e w2 ⟨rfl, hb⟩
      have HB2 := Lib.hid (Below.step HB.out HB.out.size hb)
      clear hb
      go_wp2
      go_ret2
      exact ⟨by unfold R_GreatestSum; rw [HV.out, HO.out]; rfl, HB2.out⟩
    · have a2 : decide (Pow p 8) = false := decide_eq_false hp
      have HO := Lib.hid (OK2_no (b := b) (fun h => hp h.2))
      have HV := Lib.hid (show V_GreatestSum b p = 0 by unfold V_GreatestSum; rw [HO.out]; rfl)
      clear hb hp
      go_enter Try.func17, Try.ntmps17
      go_wp2_with (first | (go_at_call 48; refine (isBase_any _ _).mono ?_; rintro e w1 ⟨rfl, rfl⟩) | (go_at_call 49; refine (isPower_any _ _ _).mono ?_; rintro e w1 ⟨rfl, rfl⟩))
      go_ret2
      exact ⟨by unfold R_GreatestSum; rw [HV.out, HO.out]; rfl, Below.refl _ _⟩
  · have a1 : decide (Bas b) = false := decide_eq_false hb
    have HO := Lib.hid (OK2_no (p := p) (m := 8) (fun h => hb h.1))
    have HV := Lib.hid (show V_GreatestSum b p = 0 by unfold V_GreatestSum; rw [HO.out]; rfl)
    clear hb
    go_enter Try.func17, Try.ntmps17
    go_wp2_with (first | (go_at_call 48; refine (isBase_any _ _).mono ?_; rintro e w1 ⟨rfl, rfl⟩) | (go_at_call 49; refine (isPower_any _ _ _).mono ?_; rintro e w1 ⟨rfl, rfl⟩))
    go_ret2
    exact ⟨by unfold R_GreatestSum; rw [HV.out, HO.out]; rfl, Below.refl _ _⟩

end Go.Proofs.Ytnniiobiedfmoaa
