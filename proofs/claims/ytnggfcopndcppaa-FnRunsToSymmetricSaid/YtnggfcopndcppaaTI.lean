/-
  Answers about digits: carries, symmetric ones (written by wip/tools/gen_rvask.py).
-/
import Derived.Test.YtnggfcopndcppaaTH
namespace Go.Proofs.Ytnggfcopndcppaa
open Go.RowKit
set_option linter.unusedVariables false
set_option linter.unusedSimpArgs false
set_option maxRecDepth 100000

theorem okR_cases (b : Int) (xs : List Int) : (okR b xs = true ∧ Dg b xs) ∨ okR b xs = false := by
  cases h : okR b xs with
  | true => exact .inl ⟨rfl, okR_dg h⟩
  | false => exact .inr rfl

/-- The program's copy of digits that are good. -/
theorem long_yes (v : Value) (xs : List Int) (b : Int) (B : Nat) (w : World) (h : Rd w B v xs) (hl : xs.length ≤ 1048576) (ho : okR b xs = true) :
    Calls Try.prog 43 #[v, .int .i64 b] w fun e w' => ∃ g cap, e = .returned (.tuple #[lng (.slice (some ⟨g, 0, none⟩) xs.length cap) b, .bool true]) ∧ Rd w' w.heap.size (.slice (some ⟨g, 0, none⟩) xs.length cap) xs ∧ Below w.heap.size w w' := by
  refine (longNumberOf_any v xs b B w h hl).mono ?_
  rintro e w' ⟨hb, ⟨_, g, cap, rfl, hr⟩ | ⟨hc, _⟩⟩
  · exact ⟨g, cap, rfl, hr, hb⟩
  · rw [ho] at hc; cases hc
theorem long_no (v : Value) (xs : List Int) (b : Int) (B : Nat) (w : World) (h : Rd w B v xs) (hl : xs.length ≤ 1048576) (ho : okR b xs = false) :
    Calls Try.prog 43 #[v, .int .i64 b] w fun e w' => e = .returned (.tuple #[lng (.slice none 0 0) 0, .bool false]) ∧ Below w.heap.size w w' := by
  refine (longNumberOf_any v xs b B w h hl).mono ?_
  rintro e w' ⟨hb, ⟨hc, _⟩ | ⟨_, rfl⟩⟩
  · rw [ho] at hc; cases hc
  · exact ⟨rfl, hb⟩

theorem ask_carries (v : Value) (xs : List Int) (b : Int) (B : Nat) (w : World) (h : Rd w B v xs) (hl : xs.length ≤ 1048576) :
    Calls Try.prog 47 #[v, .int .i64 b, .func (Fn.func 48) #[] #[]] w fun e w' => ∃ u, e = .returned (.tuple #[u, .bool (okR b xs)]) ∧ Rd w' w.heap.size u (if okR b xs = true then cyA b (smA 1 1 xs) 0 else []) ∧ Below w.heap.size w w' := by
  have H := Lib.hid h
  obtain ⟨a, cap, rfl⟩ := h.sl.len
  clear h
  rcases okR_cases b xs with ⟨ho, hd⟩ | ho
  · have HO := Lib.hid ho
    have HD := Lib.hid hd
    have h1 := hd.l1
    have h40 := hd.l40
    clear ho hd
    rw [HO.out]
    go_enter Try.func47, Try.ntmps47
    go_wp2_with fail
    refine (long_yes _ _ _ _ _ H.out hl HO.out).mono ?_
    rintro e w1 ⟨g1, cap1, rfl, hr, hb1⟩
    have R1 := Lib.hid hr
    have B1 := Lib.hid hb1
    have HAL := Lib.hid (alloc_below w1 (.cells #[.slice (some ⟨g1, 0, none⟩) xs.length cap1, .int .i64 b] 56))
    have R2 := Lib.hid (R1.out.keep HAL.out)
    have B2 := Lib.hid (Below.step B1.out B1.out.size HAL.out)
    clear hr hb1
    go_wp2_with (go_at_call 48; go_loud (refine (carries_any g1 cap1 xs b _ _ R2.out HD.out).mono ?_; rintro e w2 ⟨g2, rfl, hr2, hb2⟩; have R3 := Lib.hid (hr2.mono B2.out.size); have B3 := Lib.hid (Below.step B2.out B2.out.size hb2); clear hr2 hb2))
    go_ret2
    exact ⟨_, rfl, R3.out, B3.out⟩
  · have HO := Lib.hid ho
    clear ho
    rw [HO.out]
    go_enter Try.func47, Try.ntmps47
    go_wp2_with fail
    refine (long_no _ _ _ _ _ H.out hl HO.out).mono ?_
    rintro e w1 ⟨rfl, hb1⟩
    have B1 := Lib.hid hb1
    clear hb1
    go_wp2
    go_ret2
    exact ⟨_, rfl, by first | exact Rd.nil _ _ | (rw [if_neg (by simp)]; exact Rd.nil _ _), Below.step B1.out B1.out.size (alloc_below w1 _)⟩

theorem ask_hasNoCarry (v : Value) (xs : List Int) (b : Int) (B : Nat) (w : World) (h : Rd w B v xs) (hl : xs.length ≤ 1048576) :
    Calls Try.prog 49 #[v, .int .i64 b, .func (Fn.func 50) #[] #[]] w fun e w' => e = .returned (.tuple #[.bool (okR b xs && ncB b xs), .bool (okR b xs)]) ∧ Below w.heap.size w w' := by
  have H := Lib.hid h
  obtain ⟨a, cap, rfl⟩ := h.sl.len
  clear h
  rcases okR_cases b xs with ⟨ho, hd⟩ | ho
  · have HO := Lib.hid ho
    have HD := Lib.hid hd
    have h1 := hd.l1
    have h40 := hd.l40
    clear ho hd
    rw [HO.out]
    go_enter Try.func49, Try.ntmps49
    go_wp2_with fail
    refine (long_yes _ _ _ _ _ H.out hl HO.out).mono ?_
    rintro e w1 ⟨g1, cap1, rfl, hr, hb1⟩
    have R1 := Lib.hid hr
    have B1 := Lib.hid hb1
    have HAL := Lib.hid (alloc_below w1 (.cells #[.slice (some ⟨g1, 0, none⟩) xs.length cap1, .int .i64 b] 56))
    have R2 := Lib.hid (R1.out.keep HAL.out)
    have B2 := Lib.hid (Below.step B1.out B1.out.size HAL.out)
    clear hr hb1
    go_wp2_with (go_at_call 50; go_loud (refine (hasNoCarry_any g1 cap1 xs b _ _ R2.out HD.out).mono ?_; rintro e w2 ⟨rfl, hb2⟩; have B3 := Lib.hid (Below.step B2.out B2.out.size hb2); clear hb2))
    go_ret2
    exact ⟨rfl, B3.out⟩
  · have HO := Lib.hid ho
    clear ho
    rw [HO.out]
    go_enter Try.func49, Try.ntmps49
    go_wp2_with fail
    refine (long_no _ _ _ _ _ H.out hl HO.out).mono ?_
    rintro e w1 ⟨rfl, hb1⟩
    have B1 := Lib.hid hb1
    clear hb1
    go_wp2
    go_ret2
    exact ⟨rfl, Below.step B1.out B1.out.size (alloc_below w1 _)⟩

theorem ask_isSymmetric (v : Value) (xs : List Int) (b : Int) (B : Nat) (w : World) (h : Rd w B v xs) (hl : xs.length ≤ 1048576) :
    Calls Try.prog 49 #[v, .int .i64 b, .func (Fn.func 56) #[] #[]] w fun e w' => e = .returned (.tuple #[.bool (okR b xs && palB xs), .bool (okR b xs)]) ∧ Below w.heap.size w w' := by
  have H := Lib.hid h
  obtain ⟨a, cap, rfl⟩ := h.sl.len
  clear h
  rcases okR_cases b xs with ⟨ho, hd⟩ | ho
  · have HO := Lib.hid ho
    have HD := Lib.hid hd
    have h1 := hd.l1
    have h40 := hd.l40
    clear ho hd
    rw [HO.out]
    go_enter Try.func49, Try.ntmps49
    go_wp2_with fail
    refine (long_yes _ _ _ _ _ H.out hl HO.out).mono ?_
    rintro e w1 ⟨g1, cap1, rfl, hr, hb1⟩
    have R1 := Lib.hid hr
    have B1 := Lib.hid hb1
    have HAL := Lib.hid (alloc_below w1 (.cells #[.slice (some ⟨g1, 0, none⟩) xs.length cap1, .int .i64 b] 56))
    have R2 := Lib.hid (R1.out.keep HAL.out)
    have B2 := Lib.hid (Below.step B1.out B1.out.size HAL.out)
    clear hr hb1
    go_wp2_with (go_at_call 56; go_loud (refine (isSymmetric_any g1 cap1 xs b _ _ R2.out h1 (by omega)).mono ?_; rintro e w2 ⟨rfl, hb2⟩; have B3 := Lib.hid (Below.step B2.out B2.out.size hb2); clear hb2))
    go_ret2
    exact ⟨rfl, B3.out⟩
  · have HO := Lib.hid ho
    clear ho
    rw [HO.out]
    go_enter Try.func49, Try.ntmps49
    go_wp2_with fail
    refine (long_no _ _ _ _ _ H.out hl HO.out).mono ?_
    rintro e w1 ⟨rfl, hb1⟩
    have B1 := Lib.hid hb1
    clear hb1
    go_wp2
    go_ret2
    exact ⟨rfl, Below.step B1.out B1.out.size (alloc_below w1 _)⟩

abbrev OK_CarriesOf (xs : List Int) (b : Int) : Bool := okR b xs
def LF_CarriesOf (xs : List Int) (b : Int) : List Int := if okR b xs = true then cyA b (smA 1 1 xs) 0 else []
theorem impl_CarriesOf (v : Value) (xs : List Int) (b : Int) (B : Nat) (w : World) (h : Rd w B v xs) (hl : xs.length ≤ 1048576) :
    Calls Try.prog 10 #[v, .int .i64 b] w fun e w' => ∃ u, e = .returned (.tuple #[u, .bool (OK_CarriesOf xs b)]) ∧ Rd w' w.heap.size u (LF_CarriesOf xs b) ∧ Below w.heap.size w w' := by
  have H := Lib.hid h
  obtain ⟨a, cap, rfl⟩ := h.sl.len
  clear h
  unfold LF_CarriesOf OK_CarriesOf
  obtain ⟨L, hL⟩ : ∃ L, L = (if okR b xs = true then cyA b (smA 1 1 xs) 0 else []) := ⟨_, rfl⟩
  have HA := Lib.hid (fun (u : Value) (w' : World) (h : Rd w' B u xs) => ask_carries u xs b B w' h hl)
  rw [← hL] at HA
  rw [← hL]
  clear hL
  go_enter Try.func10, Try.ntmps10
  go_wp2_with fail
  refine (HA.out _ _ H.out).mono ?_
  rintro e w1 ⟨u, rfl, hr, hb1⟩
  have R1 := Lib.hid hr
  have B1 := Lib.hid hb1
  clear hr hb1
  go_wp2
  go_ret2
  exact ⟨u, rfl, R1.out, B1.out⟩

abbrev VAL_HasNoCarry (xs : List Int) (b : Int) : Value := .tuple #[.bool (okR b xs && ncB b xs), .bool (okR b xs)]
theorem impl_HasNoCarry (v : Value) (xs : List Int) (b : Int) (B : Nat) (w : World) (h : Rd w B v xs) (hl : xs.length ≤ 1048576) :
    Calls Try.prog 12 #[v, .int .i64 b] w fun e w' => e = .returned (VAL_HasNoCarry xs b) ∧ Below w.heap.size w w' := by
  have H := Lib.hid h
  obtain ⟨a, cap, rfl⟩ := h.sl.len
  clear h
  unfold VAL_HasNoCarry
  obtain ⟨q, hq⟩ : ∃ q, q = ncB b xs := ⟨_, rfl⟩
  have HA := Lib.hid (fun (u : Value) (w' : World) (h : Rd w' B u xs) => ask_hasNoCarry u xs b B w' h hl)
  rw [← hq] at HA
  rw [← hq]
  clear hq
  go_enter Try.func12, Try.ntmps12
  go_wp2_with fail
  refine (HA.out _ _ H.out).mono ?_
  rintro e w1 ⟨rfl, hb1⟩
  have B1 := Lib.hid hb1
  clear hb1
  go_wp2
  go_ret2
  exact ⟨rfl, B1.out⟩

abbrev VAL_IsSymmetric (xs : List Int) (b : Int) : Value := .tuple #[.bool (okR b xs && palB xs), .bool (okR b xs)]
theorem impl_IsSymmetric (v : Value) (xs : List Int) (b : Int) (B : Nat) (w : World) (h : Rd w B v xs) (hl : xs.length ≤ 1048576) :
    Calls Try.prog 19 #[v, .int .i64 b] w fun e w' => e = .returned (VAL_IsSymmetric xs b) ∧ Below w.heap.size w w' := by
  have H := Lib.hid h
  obtain ⟨a, cap, rfl⟩ := h.sl.len
  clear h
  unfold VAL_IsSymmetric
  obtain ⟨q, hq⟩ : ∃ q, q = palB xs := ⟨_, rfl⟩
  have HA := Lib.hid (fun (u : Value) (w' : World) (h : Rd w' B u xs) => ask_isSymmetric u xs b B w' h hl)
  rw [← hq] at HA
  rw [← hq]
  clear hq
  go_enter Try.func19, Try.ntmps19
  go_wp2_with fail
  refine (HA.out _ _ H.out).mono ?_
  rintro e w1 ⟨rfl, hb1⟩
  have B1 := Lib.hid hb1
  clear hb1
  go_wp2
  go_ret2
  exact ⟨rfl, B1.out⟩

theorem spec_CarriesOf (v : Value) (xs : List Int) (b : Int) (B : Nat) (w : World) (h : Rd w B v xs) (hl : xs.length ≤ 1048576) :
    Calls Try.prog 11 #[v, .int .i64 b] w fun e w' => ∃ u, e = .returned (.tuple #[u, .bool (OK_CarriesOf xs b)]) ∧ Rd w' w.heap.size u (LF_CarriesOf xs b) ∧ Below w.heap.size w w' := by
  have H := Lib.hid h
  obtain ⟨a, cap, rfl⟩ := h.sl.len
  clear h
  unfold LF_CarriesOf OK_CarriesOf
  rcases okR_cases b xs with ⟨ho, hd⟩ | ho
  · have HO := Lib.hid ho
    have HD := Lib.hid hd
    clear ho hd
    rw [HO.out, if_pos rfl]
    go_enter Try.func11, Try.ntmps11
    go_wp2_with (first
      | (go_at_call 45; go_loud (refine (rvGood_any _ _ _ _ _ H.out hl).mono ?_; rw [HO.out]; rintro e w1 ⟨rfl, rfl⟩))
      | (go_at_call 46; go_loud (refine (rvAdd_any _ _ _ _ _ H.out HD.out).mono ?_; rintro e w1 ⟨u1, u2, rfl, hr1, hr2, hb1⟩; have R2 := Lib.hid hr2; have B1 := Lib.hid hb1; clear hr1 hr2 hb1)))
    go_ret2
    exact ⟨_, rfl, R2.out, B1.out⟩
  · have HO := Lib.hid ho
    clear ho
    rw [HO.out, if_neg (by simp)]
    go_enter Try.func11, Try.ntmps11
    go_wp2_with (go_at_call 45; go_loud (refine (rvGood_any _ _ _ _ _ H.out hl).mono ?_; rw [HO.out]; rintro e w1 ⟨rfl, rfl⟩))
    go_ret2
    exact ⟨_, rfl, Rd.nil _ _, Below.refl _ _⟩

theorem LF_CarriesOf_len (xs : List Int) (b : Int) (h : xs.length ≤ 1048576) : (LF_CarriesOf xs b).length ≤ 2000000 := by
  unfold LF_CarriesOf
  split
  · rw [cyA_len, smA_len]; omega
  · simp

theorem spec_HasNoCarry (v : Value) (xs : List Int) (b : Int) (B : Nat) (w : World) (h : Rd w B v xs) (hl : xs.length ≤ 1048576) :
    Calls Try.prog 13 #[v, .int .i64 b] w fun e w' => e = .returned (VAL_HasNoCarry xs b) ∧ Below w.heap.size w w' := by
  have H := Lib.hid h
  obtain ⟨a, cap, rfl⟩ := h.sl.len
  clear h
  unfold VAL_HasNoCarry
  rcases okR_cases b xs with ⟨ho, hd⟩ | ho
  · have HO := Lib.hid ho
    have HD := Lib.hid hd
    have h40 := hd.l40
    have HNC := Lib.hid (show ncB b xs = allIn 0 0 (cyA b (smA 1 1 xs) 0) from rfl)
    have hcl := cyA_len b (smA 1 1 xs) 0
    rw [smA_len] at hcl
    have HCL := Lib.hid (show (cyA b (smA 1 1 xs) 0).length ≤ 2000000 by rw [hcl]; omega)
    clear ho hd hcl
    rw [HO.out]
    go_enter Try.func13, Try.ntmps13
    go_wp2_with (first
      | (go_at_call 45; go_loud (refine (rvGood_any _ _ _ _ _ H.out hl).mono ?_; rw [HO.out]; rintro e w1 ⟨rfl, rfl⟩))
      | (go_at_call 46; go_loud (refine (rvAdd_any _ _ _ _ _ H.out HD.out).mono ?_; rintro e w1 ⟨u1, u2, rfl, hr1, hr2, hb1⟩; have R2 := Lib.hid hr2; have B1 := Lib.hid hb1; clear hr1 hr2 hb1))
      | (go_at_call 51; go_loud (refine (l1All_any _ _ 0 0 _ _ R2.out HCL.out).mono ?_; rw [← HNC.out]; rintro e w2 ⟨rfl, rfl⟩)))
    go_ret2
    exact ⟨rfl, B1.out⟩
  · have HO := Lib.hid ho
    clear ho
    rw [HO.out]
    go_enter Try.func13, Try.ntmps13
    go_wp2_with (go_at_call 45; go_loud (refine (rvGood_any _ _ _ _ _ H.out hl).mono ?_; rw [HO.out]; rintro e w1 ⟨rfl, rfl⟩))
    go_ret2
    exact ⟨rfl, Below.refl _ _⟩

theorem spec_IsSymmetric (v : Value) (xs : List Int) (b : Int) (B : Nat) (w : World) (h : Rd w B v xs) (hl : xs.length ≤ 1048576) :
    Calls Try.prog 21 #[v, .int .i64 b] w fun e w' => e = .returned (VAL_IsSymmetric xs b) ∧ Below w.heap.size w w' := by
  have H := Lib.hid h
  obtain ⟨a, cap, rfl⟩ := h.sl.len
  clear h
  unfold VAL_IsSymmetric
  rcases okR_cases b xs with ⟨ho, hd⟩ | ho
  · have HO := Lib.hid ho
    clear ho hd
    rw [HO.out]
    go_enter Try.func21, Try.ntmps21
    go_wp2_with (first
      | (go_at_call 45; go_loud (refine (rvGood_any _ _ _ _ _ H.out hl).mono ?_; rw [HO.out]; rintro e w1 ⟨rfl, rfl⟩))
      | (go_at_call 58; go_loud (refine (dgPalindrome_any _ _ _ _ H.out (by omega)).mono ?_; rintro e w1 ⟨rfl, hb1⟩; have B1 := Lib.hid hb1; clear hb1)))
    go_ret2
    exact ⟨rfl, B1.out⟩
  · have HO := Lib.hid ho
    clear ho
    rw [HO.out]
    go_enter Try.func21, Try.ntmps21
    go_wp2_with (go_at_call 45; go_loud (refine (rvGood_any _ _ _ _ _ H.out hl).mono ?_; rw [HO.out]; rintro e w1 ⟨rfl, rfl⟩))
    go_ret2
    exact ⟨rfl, Below.refl _ _⟩

end Go.Proofs.Ytnggfcopndcppaa
