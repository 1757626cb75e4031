/-
  Lists that are unsaid: pairs of a list, and whom they say. Plain.
-/
import Derived.Test.Ytmdjmbmkgboeaaa9K
namespace Go.Proofs.Ytmdjmbmkgboeaaa
set_option linter.unusedVariables false
set_option linter.unusedSimpArgs false

/-- The pairs of a list. -/
def prs : List Int → List (Nat × Int)
  | t :: v :: r => (t.toNat, v) :: prs r
  | _ => []
theorem prs_len : ∀ ws : List Int, (prs ws).length = ws.length / 2
  | [] => rfl
  | [_] => by simp [prs]
  | t :: v :: r => by rw [prs, List.length_cons, prs_len r, List.length_cons, List.length_cons]; omega
theorem prs_say : ∀ ws : List Int, ws.length % 2 = 0 → (∀ x ∈ ws, 0 ≤ x) → sayF (prs ws) = ws
  | [], _, _ => rfl
  | [_], h, _ => by simp at h
  | t :: v :: r, h, hx => by
    have h0 := hx t (by simp)
    rw [prs, sayF, prs_say r (by simp at h; omega) (fun x hx2 => hx x (by simp [hx2]))]
    simp only
    rw [show ((t.toNat : Nat) : Int) = t by omega]
theorem prs_at : ∀ (ws : List Int) (k : Nat), 2 * k + 1 < ws.length → (prs ws)[k]? = some ((ws.getD (2 * k) 0).toNat, ws.getD (2 * k + 1) 0)
  | [], k, h => by simp at h
  | [_], k, h => by simp at h
  | t :: v :: r, 0, h => by simp [prs]
  | t :: v :: r, k + 1, h => by
    have ih := prs_at r k (by simp at h; omega)
    rw [prs, List.getElem?_cons_succ, ih, show 2 * (k + 1) = 2 * k + 1 + 1 by omega]
    simp
theorem prs_in : ∀ ws : List Int, (∀ x ∈ ws, 1 ≤ x ∧ x ≤ 9) → ∀ p ∈ prs ws, 1 ≤ p.1 ∧ p.1 ≤ 9 ∧ 1 ≤ p.2 ∧ p.2 ≤ 9
  | [], _, p, h => by cases h
  | [_], _, p, h => by cases h
  | t :: v :: r, hx, p, h => by
    rw [prs] at h
    rcases List.mem_cons.1 h with rfl | h
    · have h1 := hx t (by simp)
      have h2 := hx v (by simp)
      simp only
      omega
    · exact prs_in r (fun x hx2 => hx x (by simp [hx2])) p h

theorem alt_iff : ∀ S : List (Nat × Int), Alt S ↔ ∀ (k : Nat) (p q : Nat × Int), S[k]? = some p → S[k + 1]? = some q → p.2 ≠ q.2
  | [] => ⟨fun _ k p q h => by simp at h, fun _ => trivial⟩
  | [_] => ⟨fun _ k p q _ h => by simp at h, fun _ => trivial⟩
  | p :: q :: r => by
    have ih := alt_iff (q :: r)
    constructor
    · rintro ⟨h1, h2⟩ k a b ha hb
      cases k with
      | zero => simp at ha hb; subst ha; subst hb; exact h1
      | succ k => exact ih.1 h2 k a b (by simpa using ha) (by simpa using hb)
    · intro h
      exact ⟨h 0 p q rfl rfl, ih.2 (fun k a b ha hb => h (k + 1) a b (by simpa using ha) (by simpa using hb))⟩
def altDec : ∀ S : List (Nat × Int), Decidable (Alt S)
  | [] => .isTrue trivial
  | [_] => .isTrue trivial
  | p :: q :: r => @instDecidableAnd (p.2 ≠ q.2) (Alt (q :: r)) inferInstance (altDec (q :: r))
instance (S : List (Nat × Int)) : Decidable (Alt S) := altDec S

/-- Who says a list. -/
def Uns (ws : List Int) : Prop := gdW ws = true ∧ ws.length % 2 = 0 ∧ Alt (prs ws) ∧ toT (prs ws) ≤ 400
instance (ws : List Int) : Decidable (Uns ws) := by unfold Uns; infer_instance

theorem unsF_in (S : List (Nat × Int)) (h : ∀ p ∈ S, 1 ≤ p.2 ∧ p.2 ≤ 9) : ∀ x ∈ unsF S, 1 ≤ x ∧ x ≤ 9 := by
  induction S with
  | nil => intro x hx; cases hx
  | cons p r ih =>
    intro x hx
    rw [unsF] at hx
    rcases List.mem_append.1 hx with hx | hx
    · have := (List.mem_replicate.1 hx).2
      rw [this]
      exact h p (by simp)
    · exact ih (fun q hq => h q (by simp [hq])) x hx

/-- The program's way and the model's agree. -/
theorem uns_iff {ws : List Int} (hg : gdW ws = true) (he : ws.length % 2 = 0) : (okS (unsF (prs ws)) = true ∧ sayL (unsF (prs ws)) = ws) ↔ Uns ws := by
  have hin : ∀ x ∈ ws, 1 ≤ x ∧ x ≤ 9 := by
    unfold gdW at hg
    simp only [Bool.and_eq_true] at hg
    exact (allIn_iff 1 9 ws).1 hg.2
  have hlen : ws.length ≤ 400 := by
    unfold gdW at hg
    simp only [Bool.and_eq_true, decide_eq_true_eq] at hg
    exact hg.1
  have hp := prs_in ws hin
  have hsay := prs_say ws he (fun x hx => by have := hin x hx; omega)
  constructor
  · rintro ⟨h1, h2⟩
    unfold okS toSay gdW at h1
    simp only [Bool.and_eq_true, decide_eq_true_eq] at h1
    have hL := h1.1.1.1
    rw [unsF_len] at hL
    have h3 : sayF (strs (unsF (prs ws))) = sayF (prs ws) := by rw [hsay]; exact h2
    have h4 := sayF_inj _ _ h3
    exact ⟨hg, he, by rw [← h4]; exact strs_alt _, hL⟩
  · rintro ⟨_, _, h3, h4⟩
    have hs := strs_unsF (prs ws) (fun p h => (hp p h).1) h3
    have h5 : sayL (unsF (prs ws)) = ws := by unfold sayL; rw [hs, hsay]
    refine ⟨?_, h5⟩
    unfold okS toSay gdW
    rw [h5, hs]
    simp only [Bool.and_eq_true, decide_eq_true_eq]
    refine ⟨⟨⟨by rw [unsF_len]; exact h4, (allIn_iff 1 9 _).2 (unsF_in _ (fun p h => (hp p h).2.2))⟩, (n9_iff _).2 (fun p h => (hp p h).2.1)⟩, hlen⟩
/-- A list that is unsaid has no long stretch. -/
theorem uns_toSay {ws : List Int} (h : Uns ws) : toSay ws = true := by
  obtain ⟨hg, he, ha, _⟩ := h
  have hin : ∀ x ∈ ws, 0 ≤ x := by
    unfold gdW at hg
    simp only [Bool.and_eq_true] at hg
    exact fun x hx => by have := (allIn_iff 1 9 ws).1 hg.2 x hx; omega
  have hsay := prs_say ws he hin
  have h9 := said_n9 ha
  rw [hsay] at h9
  unfold toSay
  rw [hg, h9]
  rfl

theorem toT_take_le (S : List (Nat × Int)) (k : Nat) : toT (S.take k) ≤ toT S := by
  conv => rhs; rw [← List.take_append_drop k S]
  rw [toT_app]; omega
theorem toT_le9 (S : List (Nat × Int)) (h : ∀ p ∈ S, p.1 ≤ 9) : toT S ≤ 9 * S.length := by
  induction S with
  | nil => simp [toT]
  | cons p r ih =>
    have h1 := h p (by simp)
    have h2 := ih (fun q hq => h q (by simp [hq]))
    rw [toT, List.length_cons]; omega
theorem take_snocP {S : List (Nat × Int)} {k : Nat} {p : Nat × Int} (h : S[k]? = some p) : S.take (k + 1) = S.take k ++ [p] := by
  rw [List.take_add_one, h]; rfl

end Go.Proofs.Ytmdjmbmkgboeaaa
