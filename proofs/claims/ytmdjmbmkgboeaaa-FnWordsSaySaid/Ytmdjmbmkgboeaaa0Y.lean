/-
  What the law of said lists asks of the answers (plain).
-/
import Derived.Test.Ytmdjmbmkgboeaaa91
import Derived.Test.Ytmdjmbmkgboeaaa9R
namespace Go.Proofs.Ytmdjmbmkgboeaaa
open Go.RowKit
set_option linter.unusedVariables false
set_option linter.unusedSimpArgs false
set_option maxRecDepth 100000

theorem prs_sayF : ∀ S : List (Nat × Int), prs (sayF S) = S
  | [] => rfl
  | p :: r => by
    rw [sayF, prs, prs_sayF r]
    simp
theorem unsF_stS (x : Int) : ∀ S : List (Nat × Int), unsF (stS S x) = unsF S ++ [x]
  | [] => by simp [stS, unsF]
  | [(t, y)] => by
    unfold stS
    split
    · rename_i h
      subst h
      simp [unsF, List.replicate_succ']
    · simp [unsF]
  | p :: q :: r => by
    have ih := unsF_stS x (q :: r)
    rw [stS]
    simp only [unsF] at ih ⊢
    rw [ih]
    simp
theorem unsF_fold : ∀ (xs : List Int) (S : List (Nat × Int)), unsF (xs.foldl stS S) = unsF S ++ xs
  | [], S => by simp
  | x :: xs, S => by rw [List.foldl_cons, unsF_fold xs, unsF_stS]; simp
theorem unsF_strs (xs : List Int) : unsF (strs xs) = xs := by unfold strs; rw [unsF_fold]; rfl

theorem okS_iff {ws : List Int} : okS ws = true ↔ ws.length ≤ 400 ∧ allIn 1 9 ws = true ∧ n9 (strs ws) = true ∧ (sayL ws).length ≤ 400 := by
  unfold okS toSay gdW
  simp only [Bool.and_eq_true, decide_eq_true_eq]
  exact ⟨fun h => ⟨h.1.1.1, h.1.1.2, h.1.2, h.2⟩, fun h => ⟨⟨⟨h.1, h.2.1⟩, h.2.2.1⟩, h.2.2.2⟩⟩

/-- What is said of a list is unsaid to it. -/
theorem say_uns {ws : List Int} (h : okS ws = true) : Uns (sayL ws) ∧ unsF (prs (sayL ws)) = ws := by
  obtain ⟨h1, h2, h3, h4⟩ := okS_iff.1 h
  have e : prs (sayL ws) = strs ws := prs_sayF _
  refine ⟨⟨?_, ?_, ?_, ?_⟩, by rw [e, unsF_strs]⟩
  · unfold gdW
    simp only [Bool.and_eq_true, decide_eq_true_eq]
    exact ⟨h4, sayL_in h2 h3⟩
  · unfold sayL; rw [sayF_len]; omega
  · rw [e]; exact strs_alt ws
  · rw [e, toT_strs]; exact h1

/-- What the law asks of what is said. -/
structure SayFacts (ws : List Int) : Prop where
  bad : OK_SayWord ws = false → LF_SayWord ws = []
  back : OK_SayWord ws = true → OK_UnsayWord (LF_SayWord ws) = true ∧ LF_UnsayWord (LF_SayWord ws) = ws
  even : OK_SayWord ws = true → ∃ S : List (Nat × Int), (LF_SayWord ws).length = S.length + S.length ∧ S.length ≤ 200 ∧ toT S = ws.length ∧ ws.length ≤ 400 ∧
    ∀ (k t : Nat) (v : Int), S[k]? = some (t, v) → (LF_SayWord ws).getD (k + k) 0 = (t : Int)
theorem sayF_at : ∀ (S : List (Nat × Int)) (k : Nat) (t : Nat) (v : Int), S[k]? = some (t, v) → (sayF S).getD (k + k) 0 = (t : Int)
  | [], k, t, v, h => by simp at h
  | (a, b) :: r, 0, t, v, h => by
    simp at h
    obtain ⟨rfl, rfl⟩ := h
    simp [sayF]
  | (a, b) :: r, k + 1, t, v, h => by
    have ih := sayF_at r k t v (by simpa using h)
    rw [sayF, show k + 1 + (k + 1) = k + k + 1 + 1 by omega]
    simpa using ih
theorem say_facts (ws : List Int) : SayFacts ws := by
  refine ⟨fun h => ?_, fun h => ?_, fun h => ?_⟩
  · unfold LF_SayWord; rw [if_neg (by unfold OK_SayWord at h; rw [h]; simp)]
  · have h2 : okS ws = true := h
    have e : LF_SayWord ws = sayL ws := if_pos h2
    obtain ⟨u1, u2⟩ := say_uns h2
    rw [e]
    obtain ⟨e1, e2⟩ := Uns_yes u1
    exact ⟨e1, by rw [e2, u2]⟩
  · have h2 : okS ws = true := h
    have e : LF_SayWord ws = sayL ws := if_pos h2
    obtain ⟨h1, _, _, h4⟩ := okS_iff.1 h2
    rw [e]
    have hl : (sayL ws).length = (strs ws).length + (strs ws).length := by unfold sayL; rw [sayF_len]; omega
    exact ⟨strs ws, hl, by omega, toT_strs ws, h1, fun k t v hk => sayF_at _ k t v hk⟩

/-- What the law asks of what is unsaid. -/
structure UnsFacts (ls : List Int) : Prop where
  bad : OK_UnsayWord ls = false → LF_UnsayWord ls = []
  back : OK_UnsayWord ls = true → OK_SayWord (LF_UnsayWord ls) = true ∧ LF_SayWord (LF_UnsayWord ls) = ls
  short : (LF_UnsayWord ls).length ≤ 400
theorem uns_facts (ls : List Int) : UnsFacts ls := by
  by_cases h : Uns ls
  · obtain ⟨e1, e2⟩ := Uns_yes h
    have h2 := (uns_iff h.1 h.2.1).2 h
    refine ⟨fun c => (by rw [e1] at c; cases c), fun _ => ?_, ?_⟩
    · rw [e2]
      exact ⟨h2.1, (if_pos h2.1).trans h2.2⟩
    · rw [e2, unsF_len]; exact h.2.2.2
  · obtain ⟨e1, e2⟩ := Uns_no h
    exact ⟨fun _ => e2, fun c => (by rw [e1] at c; cases c), by rw [e2]; simp⟩

/-- What the law asks of runs. -/
structure RunFacts (xs : List Int) (s : Int) : Prop where
  bad : OK_SayRun xs s = false → LF_SayRun xs s = []
  len : OK_SayRun xs s = true → 0 ≤ s ∧ s ≤ 30 ∧ (LF_SayRun xs s).length = s.toNat + 1
  first : OK_SayRun xs s = true → lsZ (LF_SayRun xs s) 0 = xs
  said : ∀ k, k + 1 < (LF_SayRun xs s).length → OK_SayWord (lsZ (LF_SayRun xs s) k) = true ∧ LF_SayWord (lsZ (LF_SayRun xs s) k) = lsZ (LF_SayRun xs s) (k + 1)
  short : ∀ k, (lsZ (LF_SayRun xs s) k).length ≤ 400
  lens : ∀ k, k < (LF_SayRun xs s).length → (LF_LengthsOfSay xs s).getD k 0 = ((lsZ (LF_SayRun xs s) k).length : Int)
theorem lnL_at : ∀ (ls : List (List Int)) (k : Nat), k < ls.length → (lnL ls).getD k 0 = ((lsZ ls k).length : Int) := fun ls k h => by simp [lnL, lsZ, h]
theorem rnL_lsZ (xs : List Int) {K k : Nat} (h : k ≤ K) : lsZ (rnL xs K) k = snF k xs := by
  have h2 : k < (rnL xs K).length := by rw [rnL_len]; omega
  simp [lsZ, h2, rnL_at]
theorem run_facts (xs : List Int) (s : Int) : RunFacts xs s := by
  by_cases h : RunR xs s
  · have e1 : OK_SayRun xs s = true := decide_eq_true h
    have e2 : LF_SayRun xs s = rnL xs s.toNat := if_pos h
    have h2 := (shB_iff xs s.toNat).1 h.2.2.2
    have h4 : xs.length ≤ 400 := gdW_len (toSay_gd h.1).1
    have hsh := sn_short h4 h.2.2.2
    refine ⟨fun c => (by rw [e1] at c; cases c), fun _ => ⟨h.2.1, h.2.2.1, by rw [e2, rnL_len]⟩, fun _ => by rw [e2, rnL_lsZ xs (Nat.zero_le _)]; rfl, ?_, ?_, fun k hk => lnL_at _ k hk⟩
    · intro k hk
      rw [e2, rnL_len] at hk
      rw [e2, rnL_lsZ xs (by omega), rnL_lsZ xs (by omega)]
      have ht := sn_toSay h.1 k (fun j hj => h2 j (by omega))
      have hk4 := h2 k (by omega)
      have hok : okS (snF k xs) = true := by
        unfold okS
        simp only [Bool.and_eq_true, decide_eq_true_eq]
        exact ⟨ht, hk4⟩
      exact ⟨hok, if_pos hok⟩
    · intro k
      rw [e2]
      by_cases hk : k ≤ s.toNat
      · rw [rnL_lsZ xs hk]; exact hsh k hk
      · unfold lsZ
        rw [List.getD_eq_getElem?_getD, List.getElem?_eq_none (by rw [rnL_len]; omega)]
        simp
  · obtain ⟨e1, e2⟩ := RunR_no h
    refine ⟨fun _ => e2, fun c => (by rw [e1] at c; cases c), fun c => (by rw [e1] at c; cases c), fun k hk => (by rw [e2] at hk; simp at hk), fun k => by rw [e2]; simp [lsZ], fun k hk => (by rw [e2] at hk; simp at hk)⟩

end Go.Proofs.Ytmdjmbmkgboeaaa
