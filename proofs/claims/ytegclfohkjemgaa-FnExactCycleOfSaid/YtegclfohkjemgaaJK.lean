/-
  Answers: values, words, gaps, steps.
-/
import Derived.Test.YtegclfohkjemgaaJJ
import Derived.BigQuiet
import Derived.Deep.QuietTactic
namespace Go.Proofs.Ytegclfohkjemgaa
open Go.RowKit
set_option linter.unusedVariables false
set_option linter.unusedSimpArgs false
set_option maxRecDepth 100000

theorem apart_symm {u v : Value} (h : u.ownBlock = none ∨ u.ownBlock ≠ v.ownBlock) : v.ownBlock = none ∨ v.ownBlock ≠ u.ownBlock := by
  cases hv : v.ownBlock with
  | none => exact .inl rfl
  | some k =>
    right
    rcases h with h | h
    · rw [h]; simp
    · rw [hv] at h; exact fun e => h e.symm
theorem apart_sym2 {u v : Value} (h : u.ownBlock = none ∨ u.ownBlock ≠ v.ownBlock) : v.ownBlock = none ∨ v.ownBlock ≠ u.ownBlock := apart_symm h

abbrev OK_ValueOf (xs : List Int) (b : Int) : Bool := okW xs b
def V_ValueOf (xs : List Int) (b : Int) : Int := if okW xs b = true then vl b xs else 0
abbrev VAL_ValueOf (xs : List Int) (b : Int) : Value := .tuple #[.int .i64 (V_ValueOf xs b), .bool (okW xs b)]
def LF_GapsOf (xs : List Int) (b : Int) : List Int := if okW xs b = true then gp xs else []
def LF_SortedStep (xs : List Int) (b : Int) : List Int := if okW xs b = true then wd b xs.length (stv b xs) else []
abbrev OK_GapsOf (xs : List Int) (b : Int) : Bool := okW xs b
abbrev OK_SortedStep (xs : List Int) (b : Int) : Bool := okW xs b
theorem LF_GapsOf_len (xs : List Int) (b : Int) (h : xs.length ≤ 1048576) : (LF_GapsOf xs b).length ≤ 2000000 := by
  unfold LF_GapsOf; split
  · rw [gp_len]; omega
  · simp
theorem LF_SortedStep_len (xs : List Int) (b : Int) (h : xs.length ≤ 1048576) : (LF_SortedStep xs b).length ≤ 2000000 := by
  unfold LF_SortedStep; split
  · rw [wd_len]; omega
  · simp

theorem impl_ValueOf (v : Value) (xs : List Int) (b : Int) (B : Nat) (w : World) (h : Rd w B v xs) (hl : xs.length ≤ 1048576) :
    Calls Try.prog 51 #[v, .int .i64 b] w fun e w' => e = .returned (VAL_ValueOf xs b) ∧ Below w.heap.size w w' := by
  have H := Lib.hid h
  obtain ⟨a, cap, rfl⟩ := h.sl.len
  clear h
  have HV := Lib.hid (show V_ValueOf xs b = (if okW xs b = true then vl b xs else 0) from rfl)
  rw [VAL_ValueOf, HV.out]
  obtain ⟨L, hL⟩ : ∃ L, L = (if okW xs b = true then vl b xs else 0) := ⟨_, rfl⟩
  have HA := Lib.hid (fun (u : Value) (w' : World) (h : Rd w' B u xs) => ask_value u xs b B w' h (by omega))
  rw [← hL] at HA
  rw [← hL]
  clear hL
  go_enter Try.func51, Try.ntmps51
  go_wp2_with fail
  refine (HA.out _ _ H.out).mono ?_
  rintro e w1 ⟨rfl, hb1⟩
  have B1 := Lib.hid hb1
  clear hb1
  go_wp2
  go_ret2
  exact ⟨rfl, B1.out⟩

theorem spec_ValueOf (v : Value) (xs : List Int) (b : Int) (B : Nat) (w : World) (h : Rd w B v xs) (hl : xs.length ≤ 1048576) :
    Calls Try.prog 50 #[v, .int .i64 b] w fun e w' => e = .returned (VAL_ValueOf xs b) ∧ Below w.heap.size w w' := by
  have H := Lib.hid h
  obtain ⟨a, cap, rfl⟩ := h.sl.len
  clear h
  have HV := Lib.hid (show V_ValueOf xs b = (if okW xs b = true then vl b xs else 0) from rfl)
  rw [VAL_ValueOf, HV.out]
  rcases okW_cases xs b with ⟨hq, l1, l8, b2, b16, hx⟩ | hq
  · have HX := Lib.hid hx
    clear hx
    rw [hq, if_pos rfl]
    go_enter Try.func50, Try.ntmps50
    go_wp2_with (first | (go_at_call 52; refine (gpWord_any _ xs b _ _ H.out (by omega)).mono ?_; rw [hq]; rintro e w1 ⟨rfl, rfl⟩) | (go_at_call 95; refine (gpValue_any _ xs b _ H.out.sl b2 b16 HX.out l8).mono ?_; rintro e w1 ⟨rfl, rfl⟩))
    go_ret2
    exact ⟨rfl, Below.refl _ _⟩
  · rw [hq, if_neg (by simp)]
    go_enter Try.func50, Try.ntmps50
    go_wp2_with (go_at_call 52; refine (gpWord_any _ xs b _ _ H.out (by omega)).mono ?_; rw [hq]; rintro e w1 ⟨rfl, rfl⟩)
    go_ret2
    exact ⟨rfl, Below.refl _ _⟩

theorem impl_GapsOf (v : Value) (xs : List Int) (b : Int) (B : Nat) (w : World) (h : Rd w B v xs) (hl : xs.length ≤ 1048576) :
    Calls Try.prog 23 #[v, .int .i64 b] w fun e w' => ∃ u, e = .returned (.tuple #[u, .bool (OK_GapsOf xs b)]) ∧ Rd w' w.heap.size u (LF_GapsOf xs b) ∧ Below w.heap.size w w' := by
  have H := Lib.hid h
  obtain ⟨a, cap, rfl⟩ := h.sl.len
  clear h
  have HV := Lib.hid (show LF_GapsOf xs b = (if okW xs b = true then gp xs else []) from rfl)
  rw [HV.out]
  obtain ⟨L, hL⟩ : ∃ L, L = (if okW xs b = true then gp xs else []) := ⟨_, rfl⟩
  have HA := Lib.hid (fun (u : Value) (w' : World) (h : Rd w' B u xs) => ask_gaps u xs b B w' h (by omega))
  rw [← hL] at HA
  rw [← hL]
  clear hL
  go_enter Try.func23, Try.ntmps23
  go_wp2_with fail
  refine (HA.out _ _ H.out).mono ?_
  rintro e w1 ⟨u, rfl, hr, hb1⟩
  have R1 := Lib.hid hr
  have B1 := Lib.hid hb1
  clear hr hb1
  go_wp2
  go_ret2
  exact ⟨u, rfl, R1.out, B1.out⟩

theorem spec_GapsOf (v : Value) (xs : List Int) (b : Int) (B : Nat) (w : World) (h : Rd w B v xs) (hl : xs.length ≤ 1048576) :
    Calls Try.prog 22 #[v, .int .i64 b] w fun e w' => ∃ u, e = .returned (.tuple #[u, .bool (OK_GapsOf xs b)]) ∧ Rd w' w.heap.size u (LF_GapsOf xs b) ∧ Below w.heap.size w w' := by
  have H := Lib.hid h
  obtain ⟨a, cap, rfl⟩ := h.sl.len
  clear h
  have HV := Lib.hid (show LF_GapsOf xs b = (if okW xs b = true then gp xs else []) from rfl)
  rw [HV.out]
  rcases okW_cases xs b with ⟨hq, l1, l8, b2, b16, hx⟩ | hq
  · have HX := Lib.hid hx
    clear hx
    rw [OK_GapsOf, hq, if_pos rfl]
    go_enter Try.func22, Try.ntmps22
    go_wp2_with (first | (go_at_call 52; refine (gpWord_any _ xs b _ _ H.out (by omega)).mono ?_; rw [hq]; rintro e w1 ⟨rfl, rfl⟩) | (go_at_call 56; refine (gpGaps_any _ xs b _ H.out.sl l8 b16 HX.out).mono ?_; rintro e w1 ⟨u, rfl, hr, hb1⟩; have R1 := Lib.hid hr; have B1 := Lib.hid hb1; clear hr hb1))
    go_ret2
    exact ⟨u, rfl, R1.out, B1.out⟩
  · rw [OK_GapsOf, hq, if_neg (by simp)]
    go_enter Try.func22, Try.ntmps22
    go_wp2_with (go_at_call 52; refine (gpWord_any _ xs b _ _ H.out (by omega)).mono ?_; rw [hq]; rintro e w1 ⟨rfl, rfl⟩)
    go_ret2
    exact ⟨_, rfl, Rd.nil _ _, Below.refl _ _⟩

theorem impl_SortedStep (v : Value) (xs : List Int) (b : Int) (B : Nat) (w : World) (h : Rd w B v xs) (hl : xs.length ≤ 1048576) :
    Calls Try.prog 18 #[v, .int .i64 b] w fun e w' => ∃ u, e = .returned (.tuple #[u, .bool (OK_SortedStep xs b)]) ∧ Rd w' w.heap.size u (LF_SortedStep xs b) ∧ Below w.heap.size w w' := by
  have H := Lib.hid h
  obtain ⟨a, cap, rfl⟩ := h.sl.len
  clear h
  have HV := Lib.hid (show LF_SortedStep xs b = (if okW xs b = true then wd b xs.length (stv b xs) else []) from rfl)
  rw [HV.out]
  obtain ⟨L, hL⟩ : ∃ L, L = (if okW xs b = true then wd b xs.length (stv b xs) else []) := ⟨_, rfl⟩
  have HA := Lib.hid (fun (u : Value) (w' : World) (h : Rd w' B u xs) => ask_step u xs b B w' h (by omega))
  rw [← hL] at HA
  rw [← hL]
  clear hL
  go_enter Try.func18, Try.ntmps18
  go_wp2_with fail
  refine (HA.out _ _ H.out).mono ?_
  rintro e w1 ⟨u, rfl, hr, hb1⟩
  have R1 := Lib.hid hr
  have B1 := Lib.hid hb1
  clear hr hb1
  go_wp2
  go_ret2
  exact ⟨u, rfl, R1.out, B1.out⟩

theorem spec_SortedStep (v : Value) (xs : List Int) (b : Int) (B : Nat) (w : World) (h : Rd w B v xs) (hl : xs.length ≤ 1048576) :
    Calls Try.prog 16 #[v, .int .i64 b] w fun e w' => ∃ u, e = .returned (.tuple #[u, .bool (OK_SortedStep xs b)]) ∧ Rd w' w.heap.size u (LF_SortedStep xs b) ∧ Below w.heap.size w w' := by
  have H := Lib.hid h
  obtain ⟨a, cap, rfl⟩ := h.sl.len
  clear h
  have HV := Lib.hid (show LF_SortedStep xs b = (if okW xs b = true then wd b xs.length (stv b xs) else []) from rfl)
  rw [HV.out]
  rcases okW_cases xs b with ⟨hq, l1, l8, b2, b16, hx⟩ | hq
  · have HX := Lib.hid hx
    clear hx
    rw [OK_SortedStep, hq, if_pos rfl]
    go_enter Try.func16, Try.ntmps16
    go_wp2_with (first | (go_at_call 52; refine (gpWord_any _ xs b _ _ H.out (by omega)).mono ?_; rw [hq]; rintro e w1 ⟨rfl, rfl⟩) | (go_at_call 53; refine (gpStep_any _ xs b _ H.out.sl b2 b16 l8 HX.out).mono ?_; rintro e w1 ⟨u, rfl, hr, hb1⟩; have R1 := Lib.hid hr; have B1 := Lib.hid hb1; clear hr hb1))
    go_ret2
    exact ⟨u, rfl, R1.out, B1.out⟩
  · rw [OK_SortedStep, hq, if_neg (by simp)]
    go_enter Try.func16, Try.ntmps16
    go_wp2_with (go_at_call 52; refine (gpWord_any _ xs b _ _ H.out (by omega)).mono ?_; rw [hq]; rintro e w1 ⟨rfl, rfl⟩)
    go_ret2
    exact ⟨_, rfl, Rd.nil _ _, Below.refl _ _⟩

end Go.Proofs.Ytegclfohkjemgaa
