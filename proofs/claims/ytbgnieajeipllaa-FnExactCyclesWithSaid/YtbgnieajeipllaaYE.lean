/-
  One step: the program's and the model's answers.
-/
import Derived.Test.YtbgnieajeipllaaYD
namespace Go.Proofs.Ytbgnieajeipllaa
open Go.RowKit
set_option linter.unusedVariables false
set_option linter.unusedSimpArgs false
set_option maxRecDepth 100000

theorem impl_StepOf (n : Int) (w : World) :
    Calls Try.prog 18 #[.int .i64 n] w fun e w' => e = .returned (optRes (ledW 1 n)) ∧ Below w.heap.size w w' := by
  go_enter Try.func18, Try.ntmps18
  go_wp2_with (first | (go_at_call 55; refine (stepWith_any _ _).mono ?_; rintro e w1 ⟨g, rfl, hg, hc, hb⟩; have HB := Lib.hid hb; clear hb) | (go_at_call 54; refine (lead_with _ 1 g _ (by omega) (by omega) hc).mono ?_; rintro e w2 ⟨rfl, rfl⟩))
  go_ret2
  exact ⟨rfl, HB.out⟩

theorem spec_StepOf (n : Int) (w : World) :
    Calls Try.prog 17 #[.int .i64 n] w fun e w' => e = .returned (optRes (ledW 1 n)) ∧ Below w.heap.size w w' := by
  by_cases hn : Nst n
  · have a1 : decide (Nst n) = true := decide_eq_true hn
    have HS := Lib.hid (show ledW 1 n = inN (stp 1 n) from if_pos hn)
    obtain ⟨h0, h1⟩ := hn
    go_enter Try.func17, Try.ntmps17
    go_wp2_with (first | (go_at_call 51; refine (stNumber_any _ _).mono ?_; rintro e w1 ⟨rfl, rfl⟩) | (go_at_call 53; refine (stStep_any _ 1 _ (by omega) (by omega) (by omega) (by omega)).mono ?_; rintro e w1 ⟨rfl, rfl⟩) | (go_at_call 52; refine (stIf_any _ _).mono ?_; rintro e w1 ⟨rfl, rfl⟩))
    go_ret2
    exact ⟨by rw [HS.out]; rfl, Below.refl _ _⟩
  · have a1 : decide (Nst n) = false := decide_eq_false hn
    have HS := Lib.hid (ledW_not (d := 1) hn)
    clear hn
    go_enter Try.func17, Try.ntmps17
    go_wp2_with (go_at_call 51; refine (stNumber_any _ _).mono ?_; rintro e w1 ⟨rfl, rfl⟩)
    go_ret2
    exact ⟨by rw [HS.out]; rfl, Below.refl _ _⟩

theorem impl_ShortStep (n : Int) (w : World) :
    Calls Try.prog 29 #[.int .i64 n] w fun e w' => e = .returned (optRes (ledS n)) ∧ Below w.heap.size w w' := by
  go_enter Try.func29, Try.ntmps29
  go_wp2_with (go_at_call 54; refine (lead_short _ _).mono ?_; rintro e w2 ⟨rfl, rfl⟩)
  go_ret2
  exact ⟨rfl, Below.refl _ _⟩

theorem spec_ShortStep (n : Int) (w : World) :
    Calls Try.prog 28 #[.int .i64 n] w fun e w' => e = .returned (optRes (ledS n)) ∧ Below w.heap.size w w' := by
  by_cases hn : Nst n
  · have a1 : decide (Nst n) = true := decide_eq_true hn
    have HS := Lib.hid (show ledS n = inN (sho n) from if_pos hn)
    obtain ⟨h0, h1⟩ := hn
    go_enter Try.func28, Try.ntmps28
    go_wp2_with (first | (go_at_call 51; refine (stNumber_any _ _).mono ?_; rintro e w1 ⟨rfl, rfl⟩) | (go_at_call 62; refine (stShort_any _ _ (by omega) (by omega)).mono ?_; rintro e w1 ⟨rfl, rfl⟩) | (go_at_call 52; refine (stIf_any _ _).mono ?_; rintro e w1 ⟨rfl, rfl⟩))
    go_ret2
    exact ⟨by rw [HS.out]; rfl, Below.refl _ _⟩
  · have a1 : decide (Nst n) = false := decide_eq_false hn
    have HS := Lib.hid (ledS_not hn)
    clear hn
    go_enter Try.func28, Try.ntmps28
    go_wp2_with (go_at_call 51; refine (stNumber_any _ _).mono ?_; rintro e w1 ⟨rfl, rfl⟩)
    go_ret2
    exact ⟨by rw [HS.out]; rfl, Below.refl _ _⟩

theorem odd_yes {d : Int} (h : d % 2 = 1) : (d % 2 == 1) = true := beq_yes h
theorem odd_no {d : Int} (h : ¬ d % 2 = 1) : (d % 2 == 1) = false := beq_no h

theorem isStepAdded_any (d : Int) (w : World) : Calls Try.prog 77 #[.int .i64 d] w fun e w' => e = .returned (.bool (decide (Add d))) ∧ w = w' := by
  by_cases h : 1 ≤ d
  · by_cases h2 : d ≤ 99
    · by_cases h3 : d % 2 = 1
      · have hd := Lib.hid (add_yes ⟨h, h2, h3⟩)
        have ho := odd_yes h3
        go_enter Try.func77, Try.ntmps77
        go_wp2
        go_ret
        exact ⟨ret_bool (by rw [hd.out]; try simp [h2, h3, h]), rfl⟩
      · have hd := Lib.hid (add_no (fun hc => h3 hc.2.2))
        have ho := odd_no h3
        go_enter Try.func77, Try.ntmps77
        go_wp2
        go_ret
        exact ⟨ret_bool (by rw [hd.out]; try simp [h2, h3, h]), rfl⟩
    · have hd := Lib.hid (add_no (fun hc => h2 hc.2.1))
      go_enter Try.func77, Try.ntmps77
      go_wp2
      go_ret
      exact ⟨ret_bool (by rw [hd.out]; try simp [h2, h]), rfl⟩
  · have hd := Lib.hid (add_no (fun hc => h hc.1))
    go_enter Try.func77, Try.ntmps77
    go_wp2
    go_ret
    exact ⟨ret_bool (by rw [hd.out]), rfl⟩

theorem stAdded_any (d : Int) (w : World) : Calls Try.prog 76 #[.int .i64 d] w fun e w' => e = .returned (.bool (decide (Add d))) ∧ w = w' := by
  by_cases h : 1 ≤ d ∧ d ≤ 99
  · by_cases h3 : d % 2 = 1
    · have hd := Lib.hid (add_yes ⟨h.1, h.2, h3⟩)
      have ho := odd_yes h3
      obtain ⟨h1, h2⟩ := h
      go_enter Try.func76, Try.ntmps76
      go_wp2_with (go_at_call 71; refine (l1In_yes _ _ _ _ h1 h2).mono ?_; rintro e w1 ⟨rfl, rfl⟩)
      go_ret
      exact ⟨ret_bool (by rw [hd.out]; try simp [h3]), rfl⟩
    · have hd := Lib.hid (add_no (fun hc => h3 hc.2.2))
      have ho := odd_no h3
      obtain ⟨h1, h2⟩ := h
      go_enter Try.func76, Try.ntmps76
      go_wp2_with (go_at_call 71; refine (l1In_yes _ _ _ _ h1 h2).mono ?_; rintro e w1 ⟨rfl, rfl⟩)
      go_ret
      exact ⟨ret_bool (by rw [hd.out]; try simp [h3]), rfl⟩
  · have hd := Lib.hid (add_no (fun hc => h ⟨hc.1, hc.2.1⟩))
    have h2 : d < 1 ∨ 99 < d := by omega
    clear h
    go_enter Try.func76, Try.ntmps76
    go_wp2_with (go_at_call 71; refine (l1In_no _ _ _ _ h2).mono ?_; rintro e w1 ⟨rfl, rfl⟩)
    go_ret
    exact ⟨ret_bool (by rw [hd.out]), rfl⟩

theorem impl_StepWith (n d : Int) (w : World) :
    Calls Try.prog 45 #[.int .i64 n, .int .i64 d] w fun e w' => e = .returned (optRes (RStepWith d n)) ∧ Below w.heap.size w w' := by
  by_cases hd : Add d
  · have a1 := add_yes hd
    have HS := Lib.hid (show RStepWith d n = ledW d n from if_pos hd)
    obtain ⟨d0, d1, d2⟩ := hd
    go_enter Try.func45, Try.ntmps45
    go_wp2_with (first | (go_at_call 77; refine (isStepAdded_any _ _).mono ?_; rintro e w1 ⟨rfl, rfl⟩) | (go_at_call 55; refine (stepWith_any _ _).mono ?_; rintro e w1 ⟨g, rfl, hg, hc, hb⟩; have HB := Lib.hid hb; clear hb) | (go_at_call 54; refine (lead_with _ d g _ (by omega) (by omega) hc).mono ?_; rintro e w2 ⟨rfl, rfl⟩))
    go_ret2
    exact ⟨by rw [HS.out]; rfl, HB.out⟩
  · have a1 := add_no hd
    have HS := Lib.hid (show RStepWith d n = none from if_neg hd)
    clear hd
    go_enter Try.func45, Try.ntmps45
    go_wp2_with (go_at_call 77; refine (isStepAdded_any _ _).mono ?_; rintro e w1 ⟨rfl, rfl⟩)
    go_ret2
    exact ⟨by rw [HS.out]; rfl, Below.refl _ _⟩

theorem spec_StepWith (n d : Int) (w : World) :
    Calls Try.prog 44 #[.int .i64 n, .int .i64 d] w fun e w' => e = .returned (optRes (RStepWith d n)) ∧ Below w.heap.size w w' := by
  by_cases hn : Nst n
  · have a1 : decide (Nst n) = true := decide_eq_true hn
    by_cases hd : Add d
    · have a2 := add_yes hd
      have HS := Lib.hid (show RStepWith d n = inN (stp d n) by rw [RStepWith, if_pos hd, ledW, if_pos hn])
      obtain ⟨h0, h1⟩ := hn
      obtain ⟨d0, d1, d2⟩ := hd
      go_enter Try.func44, Try.ntmps44
      go_wp2_with (first | (go_at_call 51; refine (stNumber_any _ _).mono ?_; rintro e w1 ⟨rfl, rfl⟩) | (go_at_call 76; refine (stAdded_any _ _).mono ?_; rintro e w1 ⟨rfl, rfl⟩) | (go_at_call 53; refine (stStep_any _ d _ (by omega) (by omega) (by omega) (by omega)).mono ?_; rintro e w1 ⟨rfl, rfl⟩) | (go_at_call 52; refine (stIf_any _ _).mono ?_; rintro e w1 ⟨rfl, rfl⟩))
      go_ret2
      exact ⟨by rw [HS.out]; rfl, Below.refl _ _⟩
    · have a2 := add_no hd
      have HS := Lib.hid (show RStepWith d n = none from if_neg hd)
      clear hd hn
      go_enter Try.func44, Try.ntmps44
      go_wp2_with (first | (go_at_call 51; refine (stNumber_any _ _).mono ?_; rintro e w1 ⟨rfl, rfl⟩) | (go_at_call 76; refine (stAdded_any _ _).mono ?_; rintro e w1 ⟨rfl, rfl⟩))
      go_ret2
      exact ⟨by rw [HS.out]; rfl, Below.refl _ _⟩
  · have a1 : decide (Nst n) = false := decide_eq_false hn
    have HS := Lib.hid (show RStepWith d n = none by unfold RStepWith; split; exact ledW_not hn; rfl)
    clear hn
    go_enter Try.func44, Try.ntmps44
    go_wp2_with (go_at_call 51; refine (stNumber_any _ _).mono ?_; rintro e w1 ⟨rfl, rfl⟩)
    go_ret2
    exact ⟨by rw [HS.out]; rfl, Below.refl _ _⟩

theorem law_StepOf (n : Int) (w : World) :
    Calls Try.prog 3 #[.int .i64 n] w fun e w' => e = .returned (.bool true) ∧ Below w.heap.size w w' := by
  go_enter Try.func3, Try.ntmps3
  go_wp2_with (first | (go_at_call 17; refine (spec_StepOf _ _).mono ?_; rintro e w1 ⟨rfl, hbl⟩; have HB1 := Lib.hid hbl; clear hbl) | (go_at_call 18; refine (impl_StepOf _ _).mono ?_; rintro e w2 ⟨rfl, hbl⟩; have HB2 := Lib.hid hbl; clear hbl))
  go_ret
  exact ⟨by simp, Below.step HB1.out HB1.out.size HB2.out⟩

theorem law_ShortStep (n : Int) (w : World) :
    Calls Try.prog 7 #[.int .i64 n] w fun e w' => e = .returned (.bool true) ∧ Below w.heap.size w w' := by
  go_enter Try.func7, Try.ntmps7
  go_wp2_with (first | (go_at_call 28; refine (spec_ShortStep _ _).mono ?_; rintro e w1 ⟨rfl, hbl⟩; have HB1 := Lib.hid hbl; clear hbl) | (go_at_call 29; refine (impl_ShortStep _ _).mono ?_; rintro e w2 ⟨rfl, hbl⟩; have HB2 := Lib.hid hbl; clear hbl))
  go_ret
  exact ⟨by simp, Below.step HB1.out HB1.out.size HB2.out⟩

theorem law_StepWith (n d : Int) (w : World) :
    Calls Try.prog 15 #[.int .i64 n, .int .i64 d] w fun e w' => e = .returned (.bool true) ∧ Below w.heap.size w w' := by
  go_enter Try.func15, Try.ntmps15
  go_wp2_with (first | (go_at_call 44; refine (spec_StepWith _ _ _).mono ?_; rintro e w1 ⟨rfl, hbl⟩; have HB1 := Lib.hid hbl; clear hbl) | (go_at_call 45; refine (impl_StepWith _ _ _).mono ?_; rintro e w2 ⟨rfl, hbl⟩; have HB2 := Lib.hid hbl; clear hbl))
  go_ret
  exact ⟨by simp, Below.step HB1.out HB1.out.size HB2.out⟩

end Go.Proofs.Ytbgnieajeipllaa
