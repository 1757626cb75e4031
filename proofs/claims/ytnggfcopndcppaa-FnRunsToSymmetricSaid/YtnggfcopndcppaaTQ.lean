/-
  Answers of AddReversed and NeverWord.
-/
import Derived.Test.YtnggfcopndcppaaTP
import Derived.Test.YtnggfcopndcppaaTN
namespace Go.Proofs.Ytnggfcopndcppaa
open Go.RowKit
set_option linter.unusedVariables false
set_option linter.unusedSimpArgs false
set_option maxRecDepth 100000

/-- What AddReversed answers. -/
def okA (b : Int) (xs : List Int) : Bool := okR b xs && decide ((rvA b xs).length ≤ 40)
abbrev OK_AddReversed (xs : List Int) (b : Int) : Bool := okA b xs
def LF_AddReversed (xs : List Int) (b : Int) : List Int := if okA b xs = true then rvA b xs else []

theorem okA_yes {b : Int} {xs : List Int} (h : okR b xs = true) (h2 : (rvA b xs).length ≤ 40) : okA b xs = true := by unfold okA; rw [h, decide_eq_true h2]; rfl
theorem okA_long {b : Int} {xs : List Int} (h2 : 40 < (rvA b xs).length) : okA b xs = false := by unfold okA; rw [decide_eq_false (by omega)]; simp
theorem okA_no {b : Int} {xs : List Int} (h : okR b xs = false) : okA b xs = false := by unfold okA; rw [h]; rfl

theorem impl_AddReversed (v : Value) (xs : List Int) (b : Int) (B : Nat) (w : World) (h : Rd w B v xs) (hl : xs.length ≤ 1048576) :
    Calls Try.prog 8 #[v, .int .i64 b] w fun e w' => ∃ u, e = .returned (.tuple #[u, .bool (OK_AddReversed xs b)]) ∧ Rd w' w.heap.size u (LF_AddReversed xs b) ∧ Below w.heap.size w w' := by
  have H := Lib.hid h
  obtain ⟨a, cap, rfl⟩ := h.sl.len
  clear h
  rcases okR_cases b xs with ⟨ho, hd⟩ | ho
  · have HO := Lib.hid ho
    have HD := Lib.hid hd
    by_cases hle : (rvA b xs).length ≤ 40
    · have HA : okA b xs = true := okA_yes ho hle
      have HL : LF_AddReversed xs b = rvA b xs := by unfold LF_AddReversed; rw [HA]; simp
      rw [HL]
      show Calls _ _ _ _ fun e w' => ∃ u, e = .returned (.tuple #[u, .bool (okA b xs)]) ∧ _
      rw [HA]
      clear HA HL
      clear ho hd
      go_enter Try.func8, Try.ntmps8
      go_wp2_with fail
      refine (long_yes _ _ _ _ _ H.out hl HO.out).mono ?_
      rintro e w1 ⟨g1, cap1, rfl, hr, hb1⟩
      have R1 := Lib.hid hr
      have B1 := Lib.hid hb1
      have HAL := Lib.hid (alloc_below w1 (.cells #[.slice (some ⟨g1, 0, none⟩) xs.length cap1, .int .i64 b] 56))
      have R2 := Lib.hid (R1.out.keep HAL.out)
      have B2 := Lib.hid (Below.step B1.out B1.out.size HAL.out)
      clear hr hb1
      go_wp2_with fail
      refine (plusReversed_any g1 cap1 xs b _ _ R2.out HD.out).mono ?_
      rintro e w2 ⟨hb2, ⟨hle2, g2, cap2, rfl, hr2⟩ | ⟨hlt, rfl⟩⟩
      · have R3 := Lib.hid (hr2.mono B2.out.size)
        have B3 := Lib.hid (Below.step B2.out B2.out.size hb2)
        clear hr2 hb2
        go_wp2
        go_ret2
        exact ⟨_, rfl, R3.out.keep (alloc_below w2 _), Below.step B3.out B3.out.size (alloc_below w2 _)⟩
      · omega
    · have HA : okA b xs = false := okA_long (by omega)
      have HL : LF_AddReversed xs b = [] := by unfold LF_AddReversed; rw [HA]; simp
      rw [HL]
      show Calls _ _ _ _ fun e w' => ∃ u, e = .returned (.tuple #[u, .bool (okA b xs)]) ∧ _
      rw [HA]
      clear HA HL
      clear ho hd
      go_enter Try.func8, Try.ntmps8
      go_wp2_with fail
      refine (long_yes _ _ _ _ _ H.out hl HO.out).mono ?_
      rintro e w1 ⟨g1, cap1, rfl, hr, hb1⟩
      have R1 := Lib.hid hr
      have B1 := Lib.hid hb1
      have HAL := Lib.hid (alloc_below w1 (.cells #[.slice (some ⟨g1, 0, none⟩) xs.length cap1, .int .i64 b] 56))
      have R2 := Lib.hid (R1.out.keep HAL.out)
      have B2 := Lib.hid (Below.step B1.out B1.out.size HAL.out)
      clear hr hb1
      go_wp2_with fail
      refine (plusReversed_any g1 cap1 xs b _ _ R2.out HD.out).mono ?_
      rintro e w2 ⟨hb2, ⟨hle2, g2, cap2, rfl, hr2⟩ | ⟨hlt, rfl⟩⟩
      · omega
      · have B3 := Lib.hid (Below.step B2.out B2.out.size hb2)
        clear hb2
        go_wp2
        go_ret2
        exact ⟨_, rfl, Rd.nil _ _, Below.step B3.out B3.out.size (alloc_below w2 _)⟩
  · have HO := Lib.hid ho
    have HA := okA_no ho
    have HL : LF_AddReversed xs b = [] := by unfold LF_AddReversed; rw [HA]; simp
    clear ho
    rw [HL]
    show Calls _ _ _ _ fun e w' => ∃ u, e = .returned (.tuple #[u, .bool (okA b xs)]) ∧ _
    rw [HA]
    clear HA HL
    go_enter Try.func8, Try.ntmps8
    go_wp2_with fail
    refine (long_no _ _ _ _ _ H.out hl HO.out).mono ?_
    rintro e w1 ⟨rfl, hb1⟩
    have B1 := Lib.hid hb1
    clear hb1
    go_wp2
    go_ret2
    exact ⟨_, rfl, Rd.nil _ _, Below.step B1.out B1.out.size (alloc_below w1 _)⟩

theorem spec_AddReversed (v : Value) (xs : List Int) (b : Int) (B : Nat) (w : World) (h : Rd w B v xs) (hl : xs.length ≤ 1048576) :
    Calls Try.prog 9 #[v, .int .i64 b] w fun e w' => ∃ u, e = .returned (.tuple #[u, .bool (OK_AddReversed xs b)]) ∧ Rd w' w.heap.size u (LF_AddReversed xs b) ∧ Below w.heap.size w w' := by
  have H := Lib.hid h
  obtain ⟨a, cap, rfl⟩ := h.sl.len
  clear h
  rcases okR_cases b xs with ⟨ho, hd⟩ | ho
  · have HO := Lib.hid ho
    have HD := Lib.hid hd
    have HLB := Lib.hid (rvA_len hd)
    have h40 := hd.l40
    by_cases hle : (rvA b xs).length ≤ 40
    · have HA : okA b xs = true := okA_yes ho hle
      have HL : LF_AddReversed xs b = rvA b xs := by unfold LF_AddReversed; rw [HA]; simp
      rw [HL]
      show Calls _ _ _ _ fun e w' => ∃ u, e = .returned (.tuple #[u, .bool (okA b xs)]) ∧ _
      rw [HA]
      clear HA HL
      clear ho hd
      go_enter Try.func9, Try.ntmps9
      go_wp2_with fail
      refine (rvGood_any _ _ _ _ _ H.out hl).mono ?_
      rw [HO.out]
      rintro e w1 ⟨rfl, rfl⟩
      go_wp2_with fail
      refine (rvAdd_any _ _ _ _ _ H.out HD.out).mono ?_
      rintro e w2 ⟨u1, u2, rfl, hr1, hr2, hb1⟩
      obtain ⟨a1, c1, rfl⟩ := hr1.sl.len
      have R1 := Lib.hid hr1
      have B1 := Lib.hid hb1
      clear hr1 hr2 hb1
      have hle' : ¬ (40:Int) < ((rvA b xs).length : Int) := by omega
      go_wp2
      go_ret2
      exact ⟨_, rfl, R1.out, B1.out⟩
    · have HA : okA b xs = false := okA_long (by omega)
      have HL : LF_AddReversed xs b = [] := by unfold LF_AddReversed; rw [HA]; simp
      rw [HL]
      show Calls _ _ _ _ fun e w' => ∃ u, e = .returned (.tuple #[u, .bool (okA b xs)]) ∧ _
      rw [HA]
      clear HA HL
      clear ho hd
      go_enter Try.func9, Try.ntmps9
      go_wp2_with fail
      refine (rvGood_any _ _ _ _ _ H.out hl).mono ?_
      rw [HO.out]
      rintro e w1 ⟨rfl, rfl⟩
      go_wp2_with fail
      refine (rvAdd_any _ _ _ _ _ H.out HD.out).mono ?_
      rintro e w2 ⟨u1, u2, rfl, hr1, hr2, hb1⟩
      obtain ⟨a1, c1, rfl⟩ := hr1.sl.len
      have R1 := Lib.hid hr1
      have B1 := Lib.hid hb1
      clear hr1 hr2 hb1
      have hle' : (40:Int) < ((rvA b xs).length : Int) := by omega
      go_wp2
      go_ret2
      exact ⟨_, rfl, Rd.nil _ _, B1.out⟩
  · have HO := Lib.hid ho
    have HA := okA_no ho
    have HL : LF_AddReversed xs b = [] := by unfold LF_AddReversed; rw [HA]; simp
    clear ho
    rw [HL]
    show Calls _ _ _ _ fun e w' => ∃ u, e = .returned (.tuple #[u, .bool (okA b xs)]) ∧ _
    rw [HA]
    clear HA HL
    go_enter Try.func9, Try.ntmps9
    go_wp2_with (go_at_call 45; go_loud (refine (rvGood_any _ _ _ _ _ H.out hl).mono ?_; rw [HO.out]; rintro e w1 ⟨rfl, rfl⟩))
    go_ret2
    exact ⟨_, rfl, Rd.nil _ _, Below.refl _ _⟩

theorem LF_AddReversed_len (xs : List Int) (b : Int) (h : xs.length ≤ 1048576) : (LF_AddReversed xs b).length ≤ 2000000 := by
  unfold LF_AddReversed
  split
  · rename_i hk
    unfold okA at hk
    simp at hk
    omega
  · simp

end Go.Proofs.Ytnggfcopndcppaa
