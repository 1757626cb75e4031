/-
  NumberOf and AreDigits: the model, the program, the laws.
-/
import Derived.Test.YtecnalkjlilgmaaT
import Derived.Test.YtecnalkjlilgmaaE
namespace Go.Proofs.Ytecnalkjlilgmaa
open Go.RowKit
set_option linter.unusedVariables false
set_option linter.unusedSimpArgs false

theorem Rd.shape {w : World} {B : Nat} {v : Value} {xs : List Int} (h : Rd w B v xs) : ∃ a cap, v = .slice a xs.length cap := by
  rcases h.cases with ⟨rfl, rfl⟩ | ⟨g, cap, rfl, _⟩
  · exact ⟨none, 0, rfl⟩
  · exact ⟨_, cap, rfl⟩

/-- As the model asks it: also not too long. -/
def dA (b : Int) (xs : List Int) : Bool := decide (xs.length ≤ 40) && areD b xs

theorem dA_no1 (b : Int) (xs : List Int) (h : xs.length < 1 ∨ 40 < xs.length) : dA b xs = false := by
  rcases h with h | h
  · have : xs = [] := List.eq_nil_of_length_eq_zero (by omega)
    subst this
    rfl
  · have : decide (xs.length ≤ 40) = false := decide_eq_false (by omega)
    simp [dA, this]
theorem dA_no2 (b : Int) (xs : List Int) (h : allIn 0 (b - 1) xs = false) : dA b xs = false := by simp [dA, areD, h]
theorem dA_eq (b : Int) (xs : List Int) (h0 : 0 < xs.length) (h1 : xs.length ≤ 40) (h : allIn 0 (b - 1) xs = true) : dA b xs = (decide ((0 : Int) < xs[0]) || decide (xs.length = 1)) := by
  have hx := (allIn_iff _ _ _).1 h xs[0] (List.getElem_mem h0)
  have h2 : decide (xs.length ≤ 40) = true := decide_eq_true h1
  cases xs with
  | nil => simp at h0
  | cons a t =>
    simp at hx
    simp only [dA, areD, h, h2, List.headD_cons, List.getElem_cons_zero]
    by_cases ha : a = 0
    · subst ha; simp
    · have : 0 < a := by omega
      simp [ha, this]

theorem dgAre_any (v : Value) (xs : List Int) (b : Int) (B : Nat) (w : World) (h : Rd w B v xs) (hb : 2 ≤ b) (hb' : b ≤ 16) (hl : xs.length ≤ 1048576) :
    Calls Try.prog 48 #[v, .int .i64 b] w fun e w' => e = .returned (.bool (dA b xs)) ∧ w = w' := by
  rcases h.cases with ⟨rfl, rfl⟩ | ⟨g, cap, rfl, _, _, _, _, hc, _⟩
  · go_enter Try.func48, Try.ntmps48
    go_wp2_with (go_at_call 75; refine (l1In_no _ _ _ _ (by simp)).mono ?_; rintro e w' ⟨rfl, rfl⟩)
    go_ret
    exact ⟨rfl, rfl⟩
  · have H := Lib.hid h
    have hc' := Lib.hid hc
    clear hc h
    by_cases hlen : 1 ≤ xs.length ∧ xs.length ≤ 40
    · obtain ⟨l1, l2⟩ := hlen
      have h0' : 0 < xs.length := by omega
      have hc0 := hc'.out 0 h0'
      by_cases ha : allIn 0 (b - 1) xs = true
      · have hE := Lib.hid (dA_eq b xs h0' l2 ha)
        by_cases hz : (0 : Int) < xs[0]
        · have hE2 := Lib.hid (show dA b xs = true by rw [hE.out]; simp [hz])
          go_enter Try.func48, Try.ntmps48
          go_wp2_with (first | (go_at_call 75; refine (l1In_yes _ _ _ _ (by omega) (by omega)).mono ?_; rintro e w' ⟨rfl, rfl⟩) | (go_at_call 76; refine (l1All_any _ _ _ _ _ _ H.out (by omega)).mono ?_; rintro e w' ⟨rfl, rfl⟩))
          go_ret
          exact ⟨ret_bool hE2.out.symm, rfl⟩
        · have hz' : xs[0] ≤ 0 := by omega
          by_cases hone : xs.length = 1
          · have hE2 := Lib.hid (show dA b xs = true by rw [hE.out]; simp [hone])
            have h1b : ((xs.length : Int) == 1) = true := beq_yes (by omega)
            clear hone
            go_enter Try.func48, Try.ntmps48
            go_wp2_with (first | (go_at_call 75; refine (l1In_yes _ _ _ _ (by omega) (by omega)).mono ?_; rintro e w' ⟨rfl, rfl⟩) | (go_at_call 76; refine (l1All_any _ _ _ _ _ _ H.out (by omega)).mono ?_; rintro e w' ⟨rfl, rfl⟩))
            go_ret
            exact ⟨ret_bool (by rw [hE2.out]; try simp [h1b, hz']), rfl⟩
          · have hE2 := Lib.hid (show dA b xs = false by rw [hE.out]; simp [hone]; omega)
            have h1b : ((xs.length : Int) == 1) = false := beq_no (by omega)
            clear hone
            go_enter Try.func48, Try.ntmps48
            go_wp2_with (first | (go_at_call 75; refine (l1In_yes _ _ _ _ (by omega) (by omega)).mono ?_; rintro e w' ⟨rfl, rfl⟩) | (go_at_call 76; refine (l1All_any _ _ _ _ _ _ H.out (by omega)).mono ?_; rintro e w' ⟨rfl, rfl⟩))
            go_ret
            exact ⟨ret_bool (by rw [hE2.out]; try simp [h1b, hz']), rfl⟩
      · have ha' : allIn 0 (b - 1) xs = false := by simpa using ha
        have hE2 := Lib.hid (dA_no2 b xs ha')
        clear ha
        go_enter Try.func48, Try.ntmps48
        go_wp2_with (first | (go_at_call 75; refine (l1In_yes _ _ _ _ (by omega) (by omega)).mono ?_; rintro e w' ⟨rfl, rfl⟩) | (go_at_call 76; refine (l1All_any _ _ _ _ _ _ H.out (by omega)).mono ?_; rintro e w' ⟨rfl, rfl⟩))
        go_ret
        exact ⟨ret_bool hE2.out.symm, rfl⟩
    · have hn := Lib.hid (show (xs.length : Int) < 1 ∨ 40 < (xs.length : Int) by omega)
      have hE2 := Lib.hid (dA_no1 b xs (by omega))
      clear hlen
      go_enter Try.func48, Try.ntmps48
      go_wp2_with (go_at_call 75; refine (l1In_no _ _ _ _ hn.out).mono ?_; rintro e w' ⟨rfl, rfl⟩)
      go_ret
      exact ⟨ret_bool hE2.out.symm, rfl⟩

/-- What AreDigits answers: two bools. -/
def okArg (b : Int) (xs : List Int) : Bool := decide (Bas b) && decide (xs.length ≤ 40)
def RAreDigits (b : Int) (xs : List Int) : Bool := okArg b xs && areD b xs

theorem spec_AreDigits (v : Value) (xs : List Int) (b : Int) (B : Nat) (w : World) (h : Rd w B v xs) (hl : xs.length ≤ 1048576) :
    Calls Try.prog 23 #[v, .int .i64 b] w fun e w' => e = .returned (.tuple #[.bool (RAreDigits b xs), .bool (okArg b xs)]) ∧ w = w' := by
  obtain ⟨a, cap, rfl⟩ := h.shape
  have H := Lib.hid h
  clear h
  by_cases hB : Bas b
  · have a1 : decide (Bas b) = true := decide_eq_true hB
    have b0 := hB.1
    have b1 := hB.2
    by_cases hlen : xs.length ≤ 40
    · have hR := Lib.hid (show RAreDigits b xs = dA b xs ∧ okArg b xs = true by simp [RAreDigits, okArg, dA, a1, hlen])
      clear hB
      go_enter Try.func23, Try.ntmps23
      go_wp2_with (first | (go_at_call 47; refine (dgBase_any _ _).mono ?_; rintro e w' ⟨rfl, rfl⟩) | (go_at_call 48; refine (dgAre_any _ _ _ _ _ H.out b0 b1 hl).mono ?_; rintro e w' ⟨rfl, rfl⟩))
      go_ret2
      exact ⟨by rw [hR.out.1, hR.out.2]; rfl, rfl⟩
    · have hR := Lib.hid (show RAreDigits b xs = false ∧ okArg b xs = false by simp [RAreDigits, okArg, hlen])
      clear hB
      go_enter Try.func23, Try.ntmps23
      go_wp2_with (first | (go_at_call 47; refine (dgBase_any _ _).mono ?_; rintro e w' ⟨rfl, rfl⟩))
      go_ret2
      exact ⟨by rw [hR.out.1, hR.out.2]; rfl, rfl⟩
  · have a1 : decide (Bas b) = false := decide_eq_false hB
    have hR := Lib.hid (show RAreDigits b xs = false ∧ okArg b xs = false by simp [RAreDigits, okArg, a1])
    clear hB
    go_enter Try.func23, Try.ntmps23
    go_wp2_with (first | (go_at_call 47; refine (dgBase_any _ _).mono ?_; rintro e w' ⟨rfl, rfl⟩))
    go_ret2
    exact ⟨by rw [hR.out.1, hR.out.2]; rfl, rfl⟩

theorem impl_AreDigits (v : Value) (xs : List Int) (b : Int) (B : Nat) (w : World) (h : Rd w B v xs) (hl : xs.length ≤ 1048576) :
    Calls Try.prog 24 #[v, .int .i64 b] w fun e w' => e = .returned (.tuple #[.bool (RAreDigits b xs), .bool (okArg b xs)]) ∧ w = w' := by
  obtain ⟨a, cap, rfl⟩ := h.shape
  have H := Lib.hid h
  clear h
  by_cases hB : Bas b
  · have a1 : decide (Bas b) = true := decide_eq_true hB
    have b0 := hB.1
    have b1 := hB.2
    by_cases hlen : xs.length ≤ 40
    · have hR := Lib.hid (show RAreDigits b xs = areD b xs ∧ okArg b xs = true by simp [RAreDigits, okArg, dA, a1, hlen])
      clear hB
      go_enter Try.func24, Try.ntmps24
      go_wp2_with (first | (go_at_call 50; refine (isBase_any _ _).mono ?_; rintro e w' ⟨rfl, rfl⟩) | (go_at_call 52; refine (areDigits_any _ _ _ _ _ H.out b0 b1 (by omega)).mono ?_; rintro e w' ⟨rfl, rfl⟩))
      go_ret2
      exact ⟨by rw [hR.out.1, hR.out.2]; rfl, rfl⟩
    · have hR := Lib.hid (show RAreDigits b xs = false ∧ okArg b xs = false by simp [RAreDigits, okArg, hlen])
      clear hB
      go_enter Try.func24, Try.ntmps24
      go_wp2_with (first | (go_at_call 50; refine (isBase_any _ _).mono ?_; rintro e w' ⟨rfl, rfl⟩))
      go_ret2
      exact ⟨by rw [hR.out.1, hR.out.2]; rfl, rfl⟩
  · have a1 : decide (Bas b) = false := decide_eq_false hB
    have hR := Lib.hid (show RAreDigits b xs = false ∧ okArg b xs = false by simp [RAreDigits, okArg, a1])
    clear hB
    go_enter Try.func24, Try.ntmps24
    go_wp2_with (first | (go_at_call 50; refine (isBase_any _ _).mono ?_; rintro e w' ⟨rfl, rfl⟩))
    go_ret2
    exact ⟨by rw [hR.out.1, hR.out.2]; rfl, rfl⟩

/-- What NumberOf answers. -/
def RNumberOf (b : Int) (xs : List Int) : Option Int := if Bas b ∧ xs.length ≤ 40 ∧ areD b xs = true then numF b xs 0 else none

theorem dA_of {b : Int} {xs : List Int} (h : dA b xs = true) : xs.length ≤ 40 ∧ areD b xs = true := by simpa [dA] using h

theorem spec_NumberOf (v : Value) (xs : List Int) (b : Int) (B : Nat) (w : World) (h : Rd w B v xs) (hl : xs.length ≤ 1048576) :
    Calls Try.prog 20 #[v, .int .i64 b] w fun e w' => e = .returned (optRes (RNumberOf b xs)) ∧ w = w' := by
  have H := Lib.hid h
  clear h
  by_cases hB : Bas b
  · have a1 : decide (Bas b) = true := decide_eq_true hB
    have b0 := hB.1
    have b1 := hB.2
    by_cases ha : dA b xs = true
    · have hR := Lib.hid (show RNumberOf b xs = numF b xs 0 from if_pos ⟨hB, (dA_of ha).1, (dA_of ha).2⟩)
      have hall := Lib.hid (areD_all (dA_of ha).2)
      clear hB
      go_enter Try.func20, Try.ntmps20
      go_wp2_with (first | (go_at_call 47; refine (dgBase_any _ _).mono ?_; rintro e w' ⟨rfl, rfl⟩) | (go_at_call 48; refine (dgAre_any _ _ _ _ _ H.out b0 b1 hl).mono ?_; rintro e w' ⟨rfl, rfl⟩) | (go_at_call 49; refine (dgFrom_any _ _ _ _ _ H.out (fun x hx => by have := hall.out x hx; omega) b0 b1 (by have := (dA_of ha).1; omega)).mono ?_; rintro e w' ⟨rfl, rfl⟩))
      go_ret2
      exact ⟨by rw [hR.out]; rfl, rfl⟩
    · have ha' : dA b xs = false := by simpa using ha
      have hR := Lib.hid (show RNumberOf b xs = none from if_neg (fun hc => ha (by simp [dA, hc.2.1, hc.2.2])))
      clear hB ha
      go_enter Try.func20, Try.ntmps20
      go_wp2_with (first | (go_at_call 47; refine (dgBase_any _ _).mono ?_; rintro e w' ⟨rfl, rfl⟩) | (go_at_call 48; refine (dgAre_any _ _ _ _ _ H.out b0 b1 hl).mono ?_; rintro e w' ⟨rfl, rfl⟩))
      go_ret2
      exact ⟨by rw [hR.out]; rfl, rfl⟩
  · have a1 : decide (Bas b) = false := decide_eq_false hB
    have hR := Lib.hid (show RNumberOf b xs = none from if_neg (fun hc => hB hc.1))
    clear hB
    go_enter Try.func20, Try.ntmps20
    go_wp2_with (first | (go_at_call 47; refine (dgBase_any _ _).mono ?_; rintro e w' ⟨rfl, rfl⟩))
    go_ret2
    exact ⟨by rw [hR.out]; rfl, rfl⟩

theorem impl_NumberOf (v : Value) (xs : List Int) (b : Int) (B : Nat) (w : World) (h : Rd w B v xs) (hl : xs.length ≤ 1048576) :
    Calls Try.prog 22 #[v, .int .i64 b] w fun e w' => e = .returned (optRes (RNumberOf b xs)) ∧ w = w' := by
  obtain ⟨a, cap, rfl⟩ := h.shape
  have H := Lib.hid h
  clear h
  by_cases hB : Bas b
  · have a1 : decide (Bas b) = true := decide_eq_true hB
    have b0 := hB.1
    have b1 := hB.2
    by_cases hlen : xs.length ≤ 40
    · have hR := Lib.hid (show RNumberOf b xs = numD b xs by simp [RNumberOf, numD, hB, hlen])
      clear hB
      go_enter Try.func22, Try.ntmps22
      go_wp2_with (first | (go_at_call 50; refine (isBase_any _ _).mono ?_; rintro e w' ⟨rfl, rfl⟩) | (go_at_call 51; refine (numberOf_any _ _ _ _ _ H.out b0 b1 (by omega)).mono ?_; rintro e w' ⟨rfl, rfl⟩))
      go_ret2
      exact ⟨by rw [hR.out]; rfl, rfl⟩
    · have hR := Lib.hid (show RNumberOf b xs = none from if_neg (fun hc => hlen hc.2.1))
      clear hB
      go_enter Try.func22, Try.ntmps22
      go_wp2_with (first | (go_at_call 50; refine (isBase_any _ _).mono ?_; rintro e w' ⟨rfl, rfl⟩))
      go_ret2
      exact ⟨by rw [hR.out]; rfl, rfl⟩
  · have a1 : decide (Bas b) = false := decide_eq_false hB
    have hR := Lib.hid (show RNumberOf b xs = none from if_neg (fun hc => hB hc.1))
    clear hB
    go_enter Try.func22, Try.ntmps22
    go_wp2_with (first | (go_at_call 50; refine (isBase_any _ _).mono ?_; rintro e w' ⟨rfl, rfl⟩))
    go_ret2
    exact ⟨by rw [hR.out]; rfl, rfl⟩

theorem law_NumberOf {W : World} (v : Value) (xs : List Int) (hs : Sl W v xs) (b : Int) :
    Calls Try.prog 4 #[v, .int .i64 b] W fun e w' => e = .returned (.bool true) ∧ Below W.heap.size W w' := by
  obtain ⟨a, cap, rfl⟩ := hs.len
  have HS := Lib.hid hs
  clear hs
  by_cases hl : xs.length ≤ 1048576
  · go_enter Try.func4, Try.ntmps4
    go_wp2_with fail
    refine (toIntS_any _ _ _ HS.out (by omega)).mono ?_
    rintro e w1 ⟨u1, rfl, hr1, hb1⟩
    have R1 := Lib.hid hr1
    have B1 := Lib.hid hb1
    clear hr1 hb1
    go_wp2_with fail
    refine (spec_NumberOf _ _ _ _ _ R1.out hl).mono ?_
    rintro e w2 ⟨rfl, rfl⟩
    go_wp2_with fail
    refine (toIntS_any _ _ _ (HS.out.keep B1.out) (by omega)).mono ?_
    rintro e w2 ⟨u2, rfl, hr2, hb2⟩
    have R2 := Lib.hid hr2
    have B2 := Lib.hid (Below.step B1.out B1.out.size hb2)
    clear hr2 hb2
    go_wp2_with fail
    refine (impl_NumberOf _ _ _ _ _ R2.out hl).mono ?_
    rintro e w3 ⟨rfl, rfl⟩
    go_wp2_with fail
    refine (toIntS_any _ _ _ (HS.out.keep B2.out) (by omega)).mono ?_
    rintro e w3 ⟨u3, rfl, hr3, hb3⟩
    have R3 := Lib.hid hr3
    have R2' := Lib.hid (R2.out.keep hb3)
    have B3 := Lib.hid (Below.step B2.out B2.out.size hb3)
    clear hr3 hb3
    go_wp2_with fail
    refine (eqIntS_any _ _ xs xs _ R2'.out.sl R3.out.sl (by omega) (by omega)).mono ?_
    rintro e w4 ⟨rfl, hb4⟩
    have B4 := Lib.hid (Below.step B3.out B3.out.size hb4)
    clear hb4
    go_wp2
    go_ret
    exact ⟨rfl, B4.out⟩
  · go_enter Try.func4, Try.ntmps4
    go_wp2
    go_ret
    exact ⟨rfl, Below.refl _ _⟩

theorem law_AreDigits {W : World} (v : Value) (xs : List Int) (hs : Sl W v xs) (b : Int) :
    Calls Try.prog 5 #[v, .int .i64 b] W fun e w' => e = .returned (.bool true) ∧ Below W.heap.size W w' := by
  obtain ⟨a, cap, rfl⟩ := hs.len
  have HS := Lib.hid hs
  clear hs
  by_cases hl : xs.length ≤ 1048576
  · go_enter Try.func5, Try.ntmps5
    go_wp2_with fail
    refine (toIntS_any _ _ _ HS.out (by omega)).mono ?_
    rintro e w1 ⟨u1, rfl, hr1, hb1⟩
    have R1 := Lib.hid hr1
    have B1 := Lib.hid hb1
    clear hr1 hb1
    go_wp2_with fail
    refine (spec_AreDigits _ _ _ _ _ R1.out hl).mono ?_
    rintro e w2 ⟨rfl, rfl⟩
    go_wp2_with fail
    refine (toIntS_any _ _ _ (HS.out.keep B1.out) (by omega)).mono ?_
    rintro e w2 ⟨u2, rfl, hr2, hb2⟩
    have R2 := Lib.hid hr2
    have B2 := Lib.hid (Below.step B1.out B1.out.size hb2)
    clear hr2 hb2
    go_wp2_with fail
    refine (impl_AreDigits _ _ _ _ _ R2.out hl).mono ?_
    rintro e w3 ⟨rfl, rfl⟩
    go_wp2_with fail
    refine (toIntS_any _ _ _ (HS.out.keep B2.out) (by omega)).mono ?_
    rintro e w3 ⟨u3, rfl, hr3, hb3⟩
    have R3 := Lib.hid hr3
    have R2' := Lib.hid (R2.out.keep hb3)
    have B3 := Lib.hid (Below.step B2.out B2.out.size hb3)
    clear hr3 hb3
    go_wp2_with fail
    refine (eqIntS_any _ _ xs xs _ R2'.out.sl R3.out.sl (by omega) (by omega)).mono ?_
    rintro e w4 ⟨rfl, hb4⟩
    have B4 := Lib.hid (Below.step B3.out B3.out.size hb4)
    clear hb4
    go_wp2
    go_ret
    exact ⟨rfl, B4.out⟩
  · go_enter Try.func5, Try.ntmps5
    go_wp2
    go_ret
    exact ⟨rfl, Below.refl _ _⟩

end Go.Proofs.Ytecnalkjlilgmaa
