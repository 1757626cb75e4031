/-
  The lists of cycles: found one after another and sorted, or put in by their first numbers: plain mathematics.
-/
import Derived.Test.YtbgnieajeipllaaV8
namespace Go.Proofs.Ytbgnieajeipllaa
open Go.RowKit
set_option linter.unusedVariables false
set_option linter.unusedSimpArgs false
set_option maxRecDepth 100000

def hasH (acc : List (List Int)) (x : Int) : Bool := acc.any fun k => decide (hd0 k = x)
theorem hasH_iff {acc : List (List Int)} {x : Int} : hasH acc x = true ↔ ∃ k ∈ acc, hd0 k = x := by simp [hasH]
def addC (acc : List (List Int)) (c : List Int) : List (List Int) := if hasH acc (hd0 c) then acc else acc ++ [c]
/-- What the program has found up to a number. -/
def accC (d : Int) : Nat → Option (List (List Int))
  | 0 => some []
  | k + 1 => (accC d k).bind fun acc => (cyO d ((k : Int) + 1)).map (addC acc)

def insC : List (List Int) → List Int → List (List Int)
  | [], c => [c]
  | l :: ls, c => if hd0 l < hd0 c then l :: insC ls c else if hd0 l = hd0 c then l :: ls else c :: l :: ls
/-- What the model has put in up to a number. -/
def outC (d : Int) : Nat → Option (List (List Int))
  | 0 => some []
  | k + 1 => (outC d k).bind fun acc => (cyO d ((k : Int) + 1)).map (insC acc)

def Asc (ls : List (List Int)) : Prop := ls.Pairwise fun a b => hd0 a < hd0 b

theorem mem_insC {c x : List Int} : ∀ ls, x ∈ insC ls c → x = c ∨ x ∈ ls
  | [], h => by simp [insC] at h; exact .inl h
  | l :: ls, h => by
    unfold insC at h
    split at h
    · rcases List.mem_cons.1 h with h | h
      · exact .inr (by simp [h])
      · rcases mem_insC ls h with h | h
        · exact .inl h
        · exact .inr (by simp [h])
    · split at h
      · exact .inr h
      · rcases List.mem_cons.1 h with h | h
        · exact .inl h
        · exact .inr h
theorem asc_insC {c : List Int} : ∀ ls, Asc ls → Asc (insC ls c)
  | [], _ => by simp [insC, Asc]
  | l :: ls, h => by
    have h2 := List.pairwise_cons.1 h
    unfold insC
    split
    · rename_i hlt
      refine List.pairwise_cons.2 ⟨fun x hx => ?_, asc_insC ls h2.2⟩
      rcases mem_insC ls hx with rfl | hx
      · exact hlt
      · exact h2.1 x hx
    · split
      · exact h
      · rename_i h3 h4
        refine List.pairwise_cons.2 ⟨fun x hx => ?_, h⟩
        rcases List.mem_cons.1 hx with rfl | hx
        · omega
        · have := h2.1 x hx
          omega
theorem perm_insC {c : List Int} : ∀ ls, Asc ls → (if hasH ls (hd0 c) then insC ls c = ls else (insC ls c).Perm (ls ++ [c]))
  | [], _ => by simp [insC, hasH]
  | l :: ls, h => by
    have h2 := List.pairwise_cons.1 h
    have ih := perm_insC (c := c) ls h2.2
    have hc : hasH (l :: ls) (hd0 c) = (decide (hd0 l = hd0 c) || hasH ls (hd0 c)) := by simp [hasH]
    rw [hc]
    unfold insC
    by_cases h3 : hd0 l < hd0 c
    · have h4 : ¬ hd0 l = hd0 c := by omega
      rw [if_pos h3, decide_eq_false h4, Bool.false_or]
      split
      · rename_i h5
        rw [if_pos h5] at ih
        rw [ih]
      · rename_i h5
        rw [if_neg h5] at ih
        exact ih.cons l
    · by_cases h4 : hd0 l = hd0 c
      · rw [if_neg h3, if_pos h4, decide_eq_true h4, Bool.true_or, if_pos rfl]
      · have h5 : hasH ls (hd0 c) = false := by
          rw [← Bool.not_eq_true, hasH_iff]
          rintro ⟨k, hk, he⟩
          have := h2.1 k hk
          omega
        rw [h5, if_neg h3, if_neg h4, decide_eq_false h4]
        simp only [Bool.or_false, Bool.false_eq_true, if_false]
        exact (List.perm_append_singleton c (l :: ls)).symm
theorem hasH_perm {a b : List (List Int)} (h : a.Perm b) (x : Int) : hasH a x = hasH b x := by
  rw [Bool.eq_iff_iff, hasH_iff, hasH_iff]
  constructor
  · rintro ⟨k, hk, e⟩; exact ⟨k, h.mem_iff.1 hk, e⟩
  · rintro ⟨k, hk, e⟩; exact ⟨k, h.mem_iff.2 hk, e⟩

theorem cyO_good {d n : Int} {c : List Int} (hn : Nst n) (h : cyO d n = some c) : 0 < c.length ∧ c.length ≤ 1000 := by
  unfold cyO at h
  cases hx : hdc d [] n with
  | none => rw [hx] at h; simp at h
  | some o =>
    rw [hx] at h
    simp only [Option.map_some, Option.some.injEq] at h
    obtain ⟨xs, y⟩ := o
    obtain ⟨p1, p2, p3, _⟩ := hdc_props (d := d) 1000 [] n (by simp) (by simp) List.nodup_nil hn (by simp) xs y hx
    obtain ⟨k1, _, _⟩ := ixN_spec xs p1
    have e : c.length = xs.length - ixN xs y := by
      rw [← h, cyX, turn_len, List.length_drop]
    omega

/-- Both lists, side by side. -/
theorem acc_out (d : Int) : ∀ k : Nat, k ≤ 200 → (accC d k = none ∧ outC d k = none) ∨ ∃ a o, accC d k = some a ∧ outC d k = some o ∧ a.Perm o ∧ Asc o ∧ (∀ l ∈ a, 0 < l.length ∧ l.length ≤ 1000) ∧ a.length ≤ k
  | 0, _ => .inr ⟨[], [], rfl, rfl, List.Perm.refl _, List.Pairwise.nil, by simp, Nat.le_refl _⟩
  | k + 1, hk => by
    rcases acc_out d k (by omega) with ⟨h1, h2⟩ | ⟨a, o, h1, h2, h3, h4, h5, h6⟩
    · exact .inl ⟨by rw [accC, h1]; rfl, by rw [outC, h2]; rfl⟩
    · cases hc : cyO d ((k : Int) + 1) with
      | none => exact .inl ⟨by rw [accC, h1, hc]; rfl, by rw [outC, h2, hc]; rfl⟩
      | some c =>
        have hg := cyO_good (show Nst ((k : Int) + 1) from ⟨by omega, by omega⟩) hc
        refine .inr ⟨addC a c, insC o c, by rw [accC, h1, hc]; rfl, by rw [outC, h2, hc]; rfl, ?_, asc_insC o h4, ?_, ?_⟩
        · have := perm_insC (c := c) o h4
          unfold addC
          rw [hasH_perm h3]
          split
          · rename_i h7
            rw [if_pos h7] at this
            rw [this]; exact h3
          · rename_i h7
            rw [if_neg h7] at this
            exact (h3.append_right [c]).trans this.symm
        · intro l hl
          unfold addC at hl
          split at hl
          · exact h5 l hl
          · rcases List.mem_append.1 hl with hl | hl
            · exact h5 l hl
            · rw [List.mem_singleton] at hl; rw [hl]; exact hg
        · unfold addC
          split
          · omega
          · simp; omega
theorem accC_none {d : Int} {k : Nat} (h : accC d k = none) : ∀ m, k ≤ m → accC d m = none := by
  intro m hm
  induction m with
  | zero => obtain rfl : k = 0 := by omega
            exact h
  | succ m ih =>
    by_cases hk : k = m + 1
    · rw [← hk]; exact h
    · rw [accC, ih (by omega)]; rfl
theorem outC_none {d : Int} {k : Nat} (h : outC d k = none) : ∀ m, k ≤ m → outC d m = none := by
  intro m hm
  induction m with
  | zero => obtain rfl : k = 0 := by omega
            exact h
  | succ m ih =>
    by_cases hk : k = m + 1
    · rw [← hk]; exact h
    · rw [outC, ih (by omega)]; rfl

theorem asc_inj {a b : List Int} : ∀ ls, Asc ls → a ∈ ls → b ∈ ls → hd0 a = hd0 b → a = b
  | [], _, h, _, _ => by simp at h
  | l :: ls, h, ha, hb, e => by
    have h2 := List.pairwise_cons.1 h
    rcases List.mem_cons.1 ha with e1 | ha
    · rcases List.mem_cons.1 hb with e2 | hb
      · rw [e1, e2]
      · have := h2.1 b hb
        rw [← e1] at this
        omega
    · rcases List.mem_cons.1 hb with e2 | hb
      · have := h2.1 a ha
        rw [← e2] at this
        omega
      · exact asc_inj ls h2.2 ha hb e
/-- The sorted list is the one put in. -/
theorem sorted_out {a o s : List (List Int)} (h1 : a.Perm o) (h2 : Asc o) (h3 : s.Perm a) (h4 : (s.map hd0).Pairwise (· ≤ ·)) : s = o := by
  have hp := h3.trans h1
  refine List.Perm.eq_of_pairwise (le := fun x y : List Int => hd0 x ≤ hd0 y) (fun x y hx hy e1 e2 => ?_) (by rwa [List.pairwise_map] at h4) (h2.imp fun h => Int.le_of_lt h) hp
  exact asc_inj o h2 (hp.mem_iff.1 hx) hy (by omega)
theorem heads_inj {a o : List (List Int)} (h1 : a.Perm o) (h2 : Asc o) : ∀ i j, i < a.length → j < a.length → hd0 (lisR a i) = hd0 (lisR a j) → i = j := by
  have h3 : o.Pairwise (fun x y => hd0 x ≠ hd0 y) := h2.imp fun h => by omega
  have h4 : a.Pairwise (fun x y => hd0 x ≠ hd0 y) := (h1.pairwise_iff (fun h e => h e.symm)).2 h3
  have h5 := List.pairwise_iff_getElem.1 h4
  intro i j hi hj e
  have ei : lisR a i = a[i] := by have := lisR_get hi; rw [List.getElem?_eq_getElem hi] at this; exact (Option.some.inj this).symm
  have ej : lisR a j = a[j] := by have := lisR_get hj; rw [List.getElem?_eq_getElem hj] at this; exact (Option.some.inj this).symm
  rw [ei, ej] at e
  by_cases hij : i = j
  · exact hij
  · rcases Nat.lt_or_gt_of_ne hij with h | h
    · exact absurd e (h5 i j hi hj h)
    · exact absurd e.symm (h5 j i hj hi h)

end Go.Proofs.Ytbgnieajeipllaa
