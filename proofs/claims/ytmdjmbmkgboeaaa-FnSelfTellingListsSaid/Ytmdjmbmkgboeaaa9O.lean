/-
  What a list says: the model's answer; long stretches.
-/
import Derived.Test.Ytmdjmbmkgboeaaa9N
import Derived.Test.YtmdjmbmkgboeaaaK
namespace Go.Proofs.Ytmdjmbmkgboeaaa
open Go.RowKit
set_option linter.unusedVariables false
set_option linter.unusedSimpArgs false
set_option maxRecDepth 100000

theorem teGood_any (v : Value) (xs : List Int) (B : Nat) (w : World) (h : Rd w B v xs) (hl : xs.length ≤ 2000000) :
    Calls Try.prog 57 #[v] w fun e w' => e = .returned (.bool (gdW xs)) ∧ w = w' := by
  have HA := Lib.hid (l1All_any v xs 1 9 B w h hl)
  have HG := Lib.hid (show gdW xs = (decide (xs.length ≤ 400) && allIn 1 9 xs) from rfl)
  rw [HG.out]
  obtain ⟨q, hq⟩ : ∃ q, q = allIn 1 9 xs := ⟨_, rfl⟩
  rw [← hq] at HA ⊢
  obtain ⟨a, cap, rfl⟩ := h.sl.len
  obtain ⟨N, hN⟩ : ∃ N, N = xs.length := ⟨_, rfl⟩
  rw [← hN] at HA hl ⊢
  clear hN hq h HG
  by_cases h4 : N ≤ 400
  · rw [decide_eq_true h4, Bool.true_and]
    have hle : (N : Int) ≤ 400 := by omega
    go_enter Try.func57, Try.ntmps57
    go_wp2_with (go_at_call 95; refine HA.out.mono ?_; rintro e w1 ⟨rfl, rfl⟩)
    go_ret
    exact ⟨by simp, rfl⟩
  · rw [decide_eq_false h4, Bool.false_and]
    have hle : ¬ (N : Int) ≤ 400 := by omega
    go_enter Try.func57, Try.ntmps57
    go_wp2
    go_ret
    exact ⟨by simp, rfl⟩

theorem spec_SayWord (v : Value) (xs : List Int) (B : Nat) (w : World) (h : Rd w B v xs) (hl : xs.length ≤ 1048576) :
    Calls Try.prog 10 #[v] w fun e w' => ∃ u, e = .returned (.tuple #[u, .bool (OK_SayWord xs)]) ∧ Rd w' w.heap.size u (LF_SayWord xs) ∧ Below w.heap.size w w' := by
  have HG := Lib.hid (fun w' (h : Rd w' B v xs) => teGood_any v xs B w' h (by omega))
  have H := Lib.hid h
  cases hg : gdW xs with
  | false =>
    have HO := Lib.hid (show OK_SayWord xs = false by unfold OK_SayWord okS toSay; rw [hg]; rfl)
    have HL := Lib.hid (show LF_SayWord xs = [] from if_neg (by unfold okS toSay; rw [hg]; simp))
    rw [hg] at HG
    rw [HO.out, HL.out]
    obtain ⟨a, cap, rfl⟩ := h.sl.len
    clear hg h
    go_enter Try.func10, Try.ntmps10
    go_wp2_with (go_at_call 57; refine (HG.out _ H.out).mono ?_; rintro e w1 ⟨rfl, rfl⟩)
    go_ret2
    exact ⟨_, rfl, Rd.nil _ _, Below.refl _ _⟩
  | true =>
    have h4 : xs.length ≤ 400 := by
      unfold gdW at hg
      simp only [Bool.and_eq_true, decide_eq_true_eq] at hg
      exact hg.1
    have HT := Lib.hid (fun w' (h : Rd w' B v xs) => teSay_any v xs w' h.sl (by omega))
    have HO := Lib.hid (show OK_SayWord xs = okT xs by unfold OK_SayWord okS toSay okT; rw [hg, Bool.true_and])
    rw [hg] at HG
    rw [HO.out]
    obtain ⟨a, cap, rfl⟩ := h.sl.len
    cases hq : okT xs with
    | true =>
      have HL := Lib.hid (show LF_SayWord xs = LT9 xs by
        have h1 : okS xs = true := by have := HO.out; unfold OK_SayWord at this; rw [this, hq]
        have h2 : n9 (strs xs) = true := by unfold okT at hq; simp only [Bool.and_eq_true] at hq; exact hq.1
        unfold LF_SayWord LT9
        rw [if_pos h1, if_pos h2])
      rw [HL.out]
      rw [hq] at HT
      obtain ⟨X, hX⟩ : ∃ X, X = LT9 xs := ⟨_, rfl⟩
      rw [← hX] at HT ⊢
      clear hg h hq HO HL hX
      go_enter Try.func10, Try.ntmps10
      go_wp2_with (first | (go_at_call 57; refine (HG.out _ H.out).mono ?_; rintro e w1 ⟨rfl, rfl⟩) | (go_at_call 58; refine (HT.out _ H.out).mono ?_; rintro e w1 ⟨u, rfl, hr, hb⟩; have HR := Lib.hid hr; have HB := Lib.hid hb; clear hr hb))
      go_ret2
      exact ⟨_, rfl, HR.out, HB.out⟩
    | false =>
      have HL := Lib.hid (show LF_SayWord xs = [] by
        have h1 : okS xs = false := by have := HO.out; unfold OK_SayWord at this; rw [this, hq]
        unfold LF_SayWord
        rw [if_neg (by rw [h1]; simp)])
      rw [HL.out]
      rw [hq] at HT
      clear hg h hq HO HL
      go_enter Try.func10, Try.ntmps10
      go_wp2_with (first | (go_at_call 57; refine (HG.out _ H.out).mono ?_; rintro e w1 ⟨rfl, rfl⟩) | (go_at_call 58; refine (HT.out _ H.out).mono ?_; rintro e w1 ⟨u, rfl, hr, hb⟩; have HR := Lib.hid hr; have HB := Lib.hid hb; clear hr hb))
      go_ret2
      exact ⟨_, rfl, Rd.nil _ _, HB.out⟩

end Go.Proofs.Ytmdjmbmkgboeaaa
