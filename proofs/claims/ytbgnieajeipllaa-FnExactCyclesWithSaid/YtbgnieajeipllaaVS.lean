/-
  The answers of CyclesWith.
-/
import Derived.Test.YtbgnieajeipllaaVR
namespace Go.Proofs.Ytbgnieajeipllaa
open Go.RowKit
set_option linter.unusedVariables false
set_option linter.unusedSimpArgs false
set_option maxRecDepth 100000

theorem offZ_bd {Z : Nat → List Int} (h : ∀ i, (Z i).length ≤ 40000) : ∀ i, 0 ≤ offZ 1 Z i ∧ offZ 1 Z i ≤ 1 + 40000 * i
  | 0 => by simp [offZ]
  | i + 1 => by
    have := offZ_bd h i
    have h2 := h i
    rw [offZ]
    omega

def AskC (d m : Int) : Prop := Add d ∧ 1 ≤ m ∧ m ≤ 200
instance (d m : Int) : Decidable (AskC d m) := by unfold AskC; exact inferInstance
def LF_CyclesWith (d m : Int) : List (List Int) := if AskC d m then (outC d m.toNat).getD [] else []
def OK_CyclesWith (d m : Int) : Bool := if AskC d m then (outC d m.toNat).isSome else false
theorem lf_in {d : Int} {M : Nat} (hd : Add d) (h1 : 1 ≤ M) (h2 : M ≤ 200) : LF_CyclesWith d (M : Int) = (outC d M).getD [] := by
  unfold LF_CyclesWith
  rw [if_pos ⟨hd, by omega, by omega⟩, Int.toNat_natCast]
theorem ok_in {d : Int} {M : Nat} (hd : Add d) (h1 : 1 ≤ M) (h2 : M ≤ 200) : OK_CyclesWith d (M : Int) = (outC d M).isSome := by
  unfold OK_CyclesWith
  rw [if_pos ⟨hd, by omega, by omega⟩, Int.toNat_natCast]
theorem lf_out {d m : Int} (h : ¬ AskC d m) : LF_CyclesWith d m = [] := if_neg h
theorem ok_out {d m : Int} (h : ¬ AskC d m) : OK_CyclesWith d m = false := if_neg h

theorem LF_CyclesWith_bd (d m : Int) : (LF_CyclesWith d m).length ≤ 40000 ∧ ∀ i, (lsZ (LF_CyclesWith d m) i).length ≤ 40000 := by
  by_cases h : AskC d m
  · have e : LF_CyclesWith d m = (outC d m.toNat).getD [] := if_pos h
    rw [e]
    rcases acc_out d m.toNat (by have := h.2.2; omega) with ⟨_, h1⟩ | ⟨a, o, _, h2, h3, h4, h5, h6⟩
    · rw [h1]; exact ⟨by simp, fun i => by simp [lsZ]⟩
    · rw [h2]
      show o.length ≤ 40000 ∧ ∀ i, (lsZ o i).length ≤ 40000
      refine ⟨by rw [← h3.length_eq]; have := h.2.2; omega, fun i => ?_⟩
      unfold lsZ
      by_cases hi : i < o.length
      · have hg : o.getD i [] = o[i] := by rw [List.getD_eq_getElem?_getD, List.getElem?_eq_getElem hi]; rfl
        rw [hg]
        have := h5 _ (h3.mem_iff.2 (List.getElem_mem hi))
        omega
      · rw [List.getD_eq_getElem?_getD, List.getElem?_eq_none (by omega)]
        simp
  · rw [lf_out h]
    exact ⟨by simp, fun i => by simp [lsZ]⟩

theorem impl_CyclesWith (a0 a1 : Int) (w : World) :
    Calls Try.prog 47 #[.int .i64 a0, .int .i64 a1] w fun e w' => ∃ u vs, e = .returned (.tuple #[u, .bool (OK_CyclesWith a0 a1)]) ∧ LLi w' w.heap.size u vs (LF_CyclesWith a0 a1) ∧ Below w.heap.size w w' := by
  by_cases hd : Add a0
  · by_cases h1 : 1 ≤ a1
    · by_cases h2 : a1 ≤ 200
      · obtain ⟨M, rfl⟩ : ∃ M : Nat, a1 = (M : Int) := ⟨a1.toNat, by omega⟩
        rw [ok_in hd (by omega) (by omega), lf_in hd (by omega) (by omega)]
        refine (impl_cycles a0 M w hd (by omega) (by omega)).mono ?_
        rintro e w' ⟨u, vs, rfl, h3, h4⟩
        refine ⟨u, vs, ?_, h3, h4⟩
        rcases acc_out a0 M (by omega) with ⟨e1, e2⟩ | ⟨a, o, e1, e2, _⟩
        · rw [e1, e2]
        · rw [e1, e2]; rfl
      · have HO := Lib.hid (ok_out (d := a0) (m := a1) (fun h => h2 h.2.2))
        have HL := Lib.hid (lf_out (d := a0) (m := a1) (fun h => h2 h.2.2))
        have b1 := add_yes hd
        clear hd
        go_enter Try.func47, Try.ntmps47
        go_wp2
        go_step3
        go_wp2_with (go_at_call 77; refine (isStepAdded_any _ _).mono ?_; rintro e w1 ⟨rfl, rfl⟩)
        rw [Exit.noGoto_ret]
        go_ret2
        exact ⟨_, [], by rw [HO.out]; rfl, by rw [HL.out]; exact LLi.nil _ _, Below.refl _ _⟩
    · have HO := Lib.hid (ok_out (d := a0) (m := a1) (fun h => h1 h.2.1))
      have HL := Lib.hid (lf_out (d := a0) (m := a1) (fun h => h1 h.2.1))
      have b1 := add_yes hd
      clear hd
      go_enter Try.func47, Try.ntmps47
      go_wp2
      go_step3
      go_wp2_with (go_at_call 77; refine (isStepAdded_any _ _).mono ?_; rintro e w1 ⟨rfl, rfl⟩)
      rw [Exit.noGoto_ret]
      go_ret2
      exact ⟨_, [], by rw [HO.out]; rfl, by rw [HL.out]; exact LLi.nil _ _, Below.refl _ _⟩
  · have HO := Lib.hid (ok_out (d := a0) (m := a1) (fun h => hd h.1))
    have HL := Lib.hid (lf_out (d := a0) (m := a1) (fun h => hd h.1))
    have b1 := add_no hd
    clear hd
    go_enter Try.func47, Try.ntmps47
    go_wp2
    go_step3
    go_wp2_with (go_at_call 77; refine (isStepAdded_any _ _).mono ?_; rintro e w1 ⟨rfl, rfl⟩)
    rw [Exit.noGoto_ret]
    go_ret2
    exact ⟨_, [], by rw [HO.out]; rfl, by rw [HL.out]; exact LLi.nil _ _, Below.refl _ _⟩

theorem spec_CyclesWith (a0 a1 : Int) (w : World) :
    Calls Try.prog 46 #[.int .i64 a0, .int .i64 a1] w fun e w' => ∃ u vs, e = .returned (.tuple #[u, .bool (OK_CyclesWith a0 a1)]) ∧ LLi w' w.heap.size u vs (LF_CyclesWith a0 a1) ∧ Below w.heap.size w w' := by
  by_cases hd : Add a0
  · by_cases h1 : 1 ≤ a1 ∧ a1 ≤ 200
    · obtain ⟨h1, h2⟩ := h1
      obtain ⟨M, rfl⟩ : ∃ M : Nat, a1 = (M : Int) := ⟨a1.toNat, by omega⟩
      rw [ok_in hd (by omega) (by omega), lf_in hd (by omega) (by omega)]
      exact spec_cycles a0 M w hd (by omega) (by omega)
    · have HO := Lib.hid (ok_out (d := a0) (m := a1) (fun h => h1 h.2))
      have HL := Lib.hid (lf_out (d := a0) (m := a1) (fun h => h1 h.2))
      have H := Lib.hid (show a1 < 1 ∨ 200 < a1 by omega)
      have b1 := add_yes hd
      clear hd h1
      go_enter Try.func46, Try.ntmps46
      go_wp2_with (first | (go_at_call 76; refine (stAdded_any _ _).mono ?_; rintro e w1 ⟨rfl, rfl⟩) | (go_at_call 71; refine (l1In_no _ _ _ _ H.out).mono ?_; rintro e w1 ⟨rfl, rfl⟩))
      go_ret2
      exact ⟨_, [], by rw [HO.out]; rfl, by rw [HL.out]; exact LLi.nil _ _, Below.refl _ _⟩
  · have HO := Lib.hid (ok_out (d := a0) (m := a1) (fun h => hd h.1))
    have HL := Lib.hid (lf_out (d := a0) (m := a1) (fun h => hd h.1))
    have b1 := add_no hd
    clear hd
    go_enter Try.func46, Try.ntmps46
    go_wp2_with (go_at_call 76; refine (stAdded_any _ _).mono ?_; rintro e w1 ⟨rfl, rfl⟩)
    go_ret2
    exact ⟨_, [], by rw [HO.out]; rfl, by rw [HL.out]; exact LLi.nil _ _, Below.refl _ _⟩

end Go.Proofs.Ytbgnieajeipllaa
