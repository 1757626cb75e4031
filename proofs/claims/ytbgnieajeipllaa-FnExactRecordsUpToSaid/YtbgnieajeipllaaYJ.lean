/-
  Records: the program's and the model's answers.
-/
import Derived.Test.YtbgnieajeipllaaYI
namespace Go.Proofs.Ytbgnieajeipllaa
open Go.RowKit
set_option linter.unusedVariables false
set_option linter.unusedSimpArgs false
set_option maxRecDepth 100000

def OK_rec (m : Int) : Bool := decide (1 ≤ m ∧ m ≤ 2000)
theorem recs_first (f : Nat) : recs (f + 1) 1 (-1) = recs (f + 1) 1 0 := by
  rw [recs_yes (by rw [wl_one]; omega), recs_yes (by rw [wl_one]; omega)]
theorem recs_more {pre : List Int} {f : Nat} {j best : Int} {X : List Int} (hf : f = (f - 1) + 1) (h : best < wl j) (hx : pre ++ recs f j best = X) : (pre ++ [j]) ++ recs (f - 1) (j + 1) (wl j) = X := by
  rw [← hx, hf, recs_yes h, List.append_assoc]; rfl
theorem recs_less {pre : List Int} {f : Nat} {j best : Int} {X : List Int} (hf : f = (f - 1) + 1) (h : ¬ best < wl j) (hx : pre ++ recs f j best = X) : pre ++ recs (f - 1) (j + 1) best = X := by
  rw [← hx, hf, recs_no h]; rfl
theorem recs_done {pre : List Int} {f : Nat} {j best : Int} {X : List Int} (hf : f = 0) (hx : pre ++ recs f j best = X) : pre = X := by
  rw [← hx, hf]; simp [recs]

theorem spec_RecordsUpTo (m : Int) (w : World) :
    Calls Try.prog 42 #[.int .i64 m] w fun e w' => ∃ v, e = .returned (.tuple #[v, .bool (OK_rec m)]) ∧ Rd w' w.heap.size v (LF_RecordsUpTo m) ∧ Below w.heap.size w w' := by
  by_cases hm : 1 ≤ m ∧ m ≤ 2000
  · have HO := Lib.hid (show OK_rec m = true from decide_eq_true hm)
    obtain ⟨X, hX⟩ : ∃ X, X = LF_RecordsUpTo m := ⟨_, rfl⟩
    have HX := Lib.hid (show recs (m + 1 - 1).toNat 1 (-1) = X by
      rw [hX, LF_RecordsUpTo, if_pos hm, show (m + 1 - 1).toNat = (m.toNat - 1) + 1 by omega, recs_first, show m.toNat - 1 + 1 = m.toNat by omega])
    rw [HO.out, ← hX]
    clear hX
    obtain ⟨m0, m1⟩ := hm
    go_enter Try.func42, Try.ntmps42
    go_wp2_with (go_at_call 71; refine (l1In_yes _ _ _ _ m0 m1).mono ?_; rintro e w1 ⟨rfl, rfl⟩)
    go_loopw [4, 5, 6] (fun o b i wr => ∃ (j best : Int) (pre : List Int), i = .int .i64 j ∧ b = .int .i64 best ∧ 1 ≤ j ∧ j ≤ m + 1 ∧ -1 ≤ best ∧ best ≤ 1001 ∧ Hid (pre.length < j) ∧ Rd wr w.heap.size o pre ∧ Hid (pre ++ recs (m + 1 - j).toNat j best = X) ∧ Below w.heap.size w wr) (fun _ _ i _ => (m + 1 - intOf i).toNat)
    case atStart => exact ⟨1, -1, [], rfl, rfl, by omega, by omega, by omega, by omega, Lib.hid (by simp), Rd.nil _ _, Lib.hid (by rw [← HX.out]; rfl), Below.refl _ _⟩
    case round =>
      obtain ⟨j, best, pre, rfl, rfl, j0, j1, b0, b1, HPL, hr, HE, hbl⟩ := hrel
      have HR := Lib.hid hr
      have HB := Lib.hid hbl
      clear hr hbl
      by_cases hj : j ≤ m
      · have HN := Lib.hid (show Nst j from ⟨j0, by omega⟩)
        have HF := Lib.hid (show (m + 1 - j).toNat = ((m + 1 - j).toNat - 1) + 1 by omega)
        have HF2 := Lib.hid (show (m + 1 - j).toNat - 1 = (m + 1 - (j + 1)).toNat by omega)
        obtain ⟨Y, hY⟩ : ∃ Y, way j = Y := ⟨_, rfl⟩
        have HW := Lib.hid (fun w' => way_spec hY HN.out w')
        obtain ⟨L, hL⟩ : ∃ L, L = (Y.getD []).length := ⟨_, rfl⟩
        have HL := Lib.hid (show wl j = (L : Int) by rw [wl, hY, hL])
        have HLL := Lib.hid hL
        have hL2 : L ≤ 1001 := by have := way_len j; rw [hY] at this; omega
        clear hY hL
        by_cases hb : best < (L : Int)
        · have HQ := Lib.hid (recs_more HF.out (by rw [HL.out]; exact hb) HE.out)
          go_wp2_with (first | (go_at_call 56; refine (HW.out _).mono ?_; rintro e w1 ⟨v, rfl, hr, hb1⟩; have HR1 := Lib.hid (HR.out.keep hb1); have HB1 := Lib.hid (Below.step HB.out HB.out.size hb1); have hsz1 := HB1.out.size; obtain ⟨a5, c5, rfl⟩ := hr.sl.len; rw [← HLL.out]; clear hr hb1) | (at_builtin; refine wpList_appR rfl _ _ rfl w.heap.size w.heap.size _ _ pre [j] rfl rfl (HR1.out.alloc _) (Rd.litB _ _ _ hsz1) (by have := HPL.out; simp; omega) (by simp; omega) ?_; intro v1 w2 hr1 hg1 hb2; have HR2 := Lib.hid hr1; have HB2 := Lib.hid ((HB1.out.alloc hsz1 _).trans hb2); clear hr1 hg1 hb2))
          go_roundw
          case rel => exact ⟨j + 1, (L : Int), pre ++ [j], by go_num, rfl, by omega, by omega, by omega, by omega, Lib.hid (by have := HPL.out; simp; omega), HR2.out, Lib.hid (by rw [← HF2.out, ← HL.out]; exact HQ.out), HB2.out⟩
          case measure => simp [intOf]; omega
        · have HQ := Lib.hid (recs_less HF.out (by rw [HL.out]; exact hb) HE.out)
          go_wp2_with (go_at_call 56; refine (HW.out _).mono ?_; rintro e w1 ⟨v, rfl, hr, hb1⟩; have HR1 := Lib.hid (HR.out.keep hb1); have HB1 := Lib.hid (Below.step HB.out HB.out.size hb1); obtain ⟨a5, c5, rfl⟩ := hr.sl.len; rw [← HLL.out]; clear hr hb1)
          go_roundw
          case rel => exact ⟨j + 1, best, pre, by go_num, rfl, by omega, by omega, by omega, by omega, Lib.hid (by have := HPL.out; omega), HR1.out, Lib.hid (by rw [← HF2.out]; exact HQ.out), HB1.out⟩
          case measure => simp [intOf]; omega
      · have HQ := Lib.hid (recs_done (show (m + 1 - j).toNat = 0 by omega) HE.out)
        go_wp2
        go_ret2
        exact ⟨_, rfl, by rw [← HQ.out]; exact HR.out, HB.out⟩
  · rw [show OK_rec m = false from decide_eq_false hm, show LF_RecordsUpTo m = [] from if_neg hm]
    have h2 : m < 1 ∨ 2000 < m := by omega
    clear hm
    go_enter Try.func42, Try.ntmps42
    go_wp2_with (go_at_call 71; refine (l1In_no _ _ _ _ h2).mono ?_; rintro e w1 ⟨rfl, rfl⟩)
    go_ret2
    exact ⟨_, rfl, Rd.nil _ _, Below.refl _ _⟩

theorem steps_impl {n : Int} {X : Option Int} (h : RStepsTo n = X) (w : World) :
    Calls Try.prog 20 #[.int .i64 n] w fun e w' => e = .returned (optRes X) ∧ Below w.heap.size w w' := by
  rw [← h]; exact impl_StepsTo n w

theorem impl_RecordsUpTo (m : Int) (w : World) :
    Calls Try.prog 43 #[.int .i64 m] w fun e w' => ∃ v, e = .returned (.tuple #[v, .bool (OK_rec m)]) ∧ Rd w' w.heap.size v (LF_RecordsUpTo m) ∧ Below w.heap.size w w' := by
  by_cases hm0 : 1 ≤ m
  · by_cases hm1 : m ≤ 2000
    · have HO := Lib.hid (show OK_rec m = true from decide_eq_true ⟨hm0, hm1⟩)
      obtain ⟨X, hX⟩ : ∃ X, X = LF_RecordsUpTo m := ⟨_, rfl⟩
      have HX := Lib.hid (show recs (m + 1 - 1).toNat 1 0 = X by
        rw [hX, LF_RecordsUpTo, if_pos ⟨hm0, hm1⟩, show (m + 1 - 1).toNat = m.toNat by omega])
      rw [HO.out, ← hX]
      clear hX
      go_enter Try.func43, Try.ntmps43
      go_wp2
      go_loopw [4, 5, 6] (fun o b i wr => ∃ (j best : Int) (pre : List Int), i = .int .i64 j ∧ b = .int .i64 (best - 1) ∧ 1 ≤ j ∧ j ≤ m + 1 ∧ 0 ≤ best ∧ best ≤ 1001 ∧ Hid (pre.length < j) ∧ Rd wr w.heap.size o pre ∧ Hid (pre ++ recs (m + 1 - j).toNat j best = X) ∧ Below w.heap.size w wr) (fun _ _ i _ => (m + 1 - intOf i).toNat)
      case atStart => exact ⟨1, 0, [], rfl, rfl, by omega, by omega, by omega, by omega, Lib.hid (by simp), Rd.nil _ _, Lib.hid (by rw [← HX.out]; rfl), Below.refl _ _⟩
      case round =>
        obtain ⟨j, best, pre, rfl, rfl, j0, j1, b0, b1, HPL, hr, HE, hbl⟩ := hrel
        have HR := Lib.hid hr
        have HB := Lib.hid hbl
        clear hr hbl
        by_cases hj : j ≤ m
        · have HF := Lib.hid (show (m + 1 - j).toNat = ((m + 1 - j).toNat - 1) + 1 by omega)
          have HF2 := Lib.hid (show (m + 1 - j).toNat - 1 = (m + 1 - (j + 1)).toNat by omega)
          cases hY : way j with
          | none =>
            have HW := Lib.hid (fun w' => steps_impl (show RStepsTo j = none by rw [RStepsTo, hY]; rfl) w')
            have HQ := Lib.hid (recs_less HF.out (by rw [wl_none hY]; omega) HE.out)
            clear hY
            go_wp2_with (go_at_call 20; refine (HW.out _).mono ?_; rintro e w1 ⟨rfl, hb1⟩; have HR1 := Lib.hid (HR.out.keep hb1); have HB1 := Lib.hid (Below.step HB.out HB.out.size hb1); clear hb1)
            go_roundw
            case rel => exact ⟨j + 1, best, pre, by go_num, rfl, by omega, by omega, by omega, by omega, Lib.hid (by have := HPL.out; omega), HR1.out, Lib.hid (by rw [← HF2.out]; exact HQ.out), HB1.out⟩
            case measure => simp [intOf]; omega
          | some l =>
            obtain ⟨l1, l2, _⟩ := way_props hY
            obtain ⟨L, hL⟩ : ∃ L, L = l.length := ⟨_, rfl⟩
            have HW := Lib.hid (fun w' => steps_impl (show RStepsTo j = some ((L : Int) - 1) by rw [RStepsTo, hY, hL]; rfl) w')
            have HL := Lib.hid (show wl j = (L : Int) by rw [wl_some hY, hL])
            rw [← hL] at l1 l2
            clear hY hL
            by_cases hb : best < (L : Int)
            · have HQ := Lib.hid (recs_more HF.out (by rw [HL.out]; exact hb) HE.out)
              have hd : decide (best - 1 < (L : Int) - 1) = true := decide_eq_true (by omega)
              go_wp2_with (first | (go_at_call 20; refine (HW.out _).mono ?_; rintro e w1 ⟨rfl, hb1⟩; have HR1 := Lib.hid (HR.out.keep hb1); have HB1 := Lib.hid (Below.step HB.out HB.out.size hb1); have hsz1 := HB1.out.size; clear hb1) | (at_builtin; refine wpList_appR rfl _ _ rfl w.heap.size w.heap.size _ _ pre [j] rfl rfl (HR1.out.alloc _) (Rd.litB _ _ _ hsz1) (by have := HPL.out; simp; omega) (by simp; omega) ?_; intro v1 w2 hr1 hg1 hb2; have HR2 := Lib.hid hr1; have HB2 := Lib.hid ((HB1.out.alloc hsz1 _).trans hb2); clear hr1 hg1 hb2))
              go_roundw
              case rel => exact ⟨j + 1, (L : Int), pre ++ [j], by go_num, rfl, by omega, by omega, by omega, by omega, Lib.hid (by have := HPL.out; simp; omega), HR2.out, Lib.hid (by rw [← HF2.out, ← HL.out]; exact HQ.out), HB2.out⟩
              case measure => simp [intOf]; omega
            · have HQ := Lib.hid (recs_less HF.out (by rw [HL.out]; exact hb) HE.out)
              have hd : decide (best - 1 < (L : Int) - 1) = false := decide_eq_false (by omega)
              go_wp2_with (go_at_call 20; refine (HW.out _).mono ?_; rintro e w1 ⟨rfl, hb1⟩; have HR1 := Lib.hid (HR.out.keep hb1); have HB1 := Lib.hid (Below.step HB.out HB.out.size hb1); clear hb1)
              go_roundw
              case rel => exact ⟨j + 1, best, pre, by go_num, rfl, by omega, by omega, by omega, by omega, Lib.hid (by have := HPL.out; omega), HR1.out, Lib.hid (by rw [← HF2.out]; exact HQ.out), HB1.out⟩
              case measure => simp [intOf]; omega
        · have HQ := Lib.hid (recs_done (show (m + 1 - j).toNat = 0 by omega) HE.out)
          go_wp2
          go_ret2
          exact ⟨_, rfl, by rw [← HQ.out]; exact HR.out, HB.out⟩
    · rw [show OK_rec m = false from decide_eq_false (fun h => hm1 h.2), show LF_RecordsUpTo m = [] from if_neg (fun h => hm1 h.2)]
      go_enter Try.func43, Try.ntmps43
      go_wp2
      go_ret2
      exact ⟨_, rfl, Rd.nil _ _, Below.refl _ _⟩
  · rw [show OK_rec m = false from decide_eq_false (fun h => hm0 h.1), show LF_RecordsUpTo m = [] from if_neg (fun h => hm0 h.1)]
    go_enter Try.func43, Try.ntmps43
    go_wp2
    go_ret2
    exact ⟨_, rfl, Rd.nil _ _, Below.refl _ _⟩

end Go.Proofs.Ytbgnieajeipllaa
