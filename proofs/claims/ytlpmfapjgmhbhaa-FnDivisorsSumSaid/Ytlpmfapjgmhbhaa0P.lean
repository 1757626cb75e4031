/-
  Proper runs go on by proper sums, and circles come back to themselves: plain mathematics.
-/
import Derived.Test.Ytlpmfapjgmhbhaa8C
namespace Go.Proofs.Ytlpmfapjgmhbhaa
open Go.RowKit
set_option linter.unusedVariables false
set_option linter.unusedSimpArgs false

theorem getD_lt {l : List Int} {k : Nat} (h : k < l.length) : l.getD k 0 = l[k] := by simp [h]
theorem getD_app_l {l r : List Int} {k : Nat} (h : k < l.length) : (l ++ r).getD k 0 = l.getD k 0 := by
  rw [List.getD_eq_getElem?_getD, List.getElem?_append_left h, ← List.getD_eq_getElem?_getD]
theorem getD_app_r {l r : List Int} {k : Nat} (h : l.length ≤ k) : (l ++ r).getD k 0 = r.getD (k - l.length) 0 := by
  rw [List.getD_eq_getElem?_getD, List.getElem?_append_right h, ← List.getD_eq_getElem?_getD]

/-- Each number is the proper sum of the one before, and x that of the last one. -/
def Ch (l : List Int) (x : Int) : Prop := (∀ k, k + 1 < l.length → prop (l.getD k 0) = l.getD (k + 1) 0) ∧ (1 ≤ l.length → prop (l.getD (l.length - 1) 0) = x)
theorem Ch.snoc {l : List Int} {x : Int} (h : Ch l x) : Ch (l ++ [x]) (prop x) := by
  refine ⟨fun k hk => ?_, fun _ => ?_⟩
  · rw [List.length_append, List.length_singleton] at hk
    by_cases h1 : k + 1 < l.length
    · rw [getD_app_l (by omega), getD_app_l h1]; exact h.1 k h1
    · obtain rfl : k = l.length - 1 := by omega
      rw [getD_app_l (by omega), getD_app_r (by omega), show l.length - 1 + 1 - l.length = 0 by omega, h.2 (by omega)]
      rfl
  · rw [List.length_append, List.length_singleton, getD_app_r (by omega), show l.length + 1 - 1 - l.length = 0 by omega]
    rfl
theorem goR_chain (m : Nat) : ∀ (l : List Int) (x : Int), Ch l x → Ch (goR m l x).1 (goR m l x).2 := by
  refine goR_ind (m := m) (P := fun l x => Ch l x → Ch (goR m l x).1 (goR m l x).2) ?_ ?_
  · intro l x h h1 h2 ih hc
    rw [goR_step h h1 h2]
    exact ih hc.snoc
  · intro l x h hc
    rw [goR_stop h]; exact hc
theorem runR_chain (n : Int) (m : Nat) : Ch (runR n m).1 (runR n m).2 := goR_chain m [] n ⟨fun k hk => by simp at hk, fun h => by simp at h⟩
theorem goR_ext (m : Nat) : ∀ (l : List Int) (x : Int), ∃ r, (goR m l x).1 = l ++ r := by
  refine goR_ind (m := m) (P := fun l x => ∃ r, (goR m l x).1 = l ++ r) ?_ ?_
  · intro l x h h1 h2 ih
    obtain ⟨r, hr⟩ := ih
    rw [goR_step h h1 h2]
    exact ⟨[x] ++ r, by rw [hr]; simp⟩
  · intro l x h
    rw [goR_stop h]; exact ⟨[], by simp⟩
theorem runR_head {n : Int} {m : Nat} (hn : Dv n) (hm : 1 ≤ m) : (runR n m).1.getD 0 0 = n := by
  rw [runR_first hn hm]
  obtain ⟨r, hr⟩ := goR_ext m [n] (prop n)
  rw [hr]; rfl

theorem ixN_get {x : Int} {l : List Int} (h : x ∈ l) : l.getD (plc x l) 0 = x := (ixN_spec l h).2.1

/-- How ends are told. -/
theorem end_zero {l : List Int} {x : Int} : endOf (l, x) = 0 ↔ x = 0 := by
  by_cases hd : Dv x
  · have hx : x ≠ 0 := fun c => by have := hd.1; omega
    by_cases hi : x ∈ l
    · rw [endOf_in hd hi]
      have := plc_lt hi
      constructor
      · intro h; omega
      · intro h; exact absurd h hx
    · rw [endOf_more hd hi]
      constructor
      · intro h; omega
      · intro h; exact absurd h hx
  · by_cases hx : x = 0
    · subst hx; rw [endOf_zero]
    · rw [endOf_high hd hx]
      constructor
      · intro h; omega
      · intro h; exact absurd h hx
theorem end_high {l : List Int} {x : Int} (h0 : 0 ≤ x) : endOf (l, x) = 4 ↔ 1000000000 < x := by
  by_cases hd : Dv x
  · have h2 := hd.2
    by_cases hi : x ∈ l
    · rw [endOf_in hd hi]
      constructor
      · intro h; omega
      · intro h; omega
    · rw [endOf_more hd hi]
      constructor
      · intro h; omega
      · intro h; omega
  · by_cases hx : x = 0
    · subst hx; rw [endOf_zero]
      constructor
      · intro h; omega
      · intro h; omega
    · rw [endOf_high hd hx]
      have : 1000000000 < x := by
        by_cases c : 1000000000 < x
        · exact c
        · exact absurd ⟨by omega, by omega⟩ hd
      simp [this]
theorem crc_len {l : List Int} {x : Int} (hd : Dv x) (hi : x ∈ l) : (crcOf (l, x)).length = l.length - plc x l ∧ 1 ≤ (crcOf (l, x)).length ∧ endOf (l, x) = min ((crcOf (l, x)).length : Int) 3 := by
  have h1 := plc_lt hi
  rw [crcOf_in hd hi, List.length_drop, endOf_in hd hi]
  exact ⟨rfl, by omega, rfl⟩
/-- A run has a circle exactly if its end is told as 1, 2 or 3; and these tell how many numbers it has. -/
theorem end_circle (l : List Int) (x : Int) : (crcOf (l, x) ≠ [] ↔ 1 ≤ endOf (l, x) ∧ endOf (l, x) ≤ 3) ∧ (crcOf (l, x) ≠ [] → (endOf (l, x) = 1 ↔ (crcOf (l, x)).length = 1) ∧ (endOf (l, x) = 2 ↔ (crcOf (l, x)).length = 2)) := by
  by_cases h : Dv x ∧ x ∈ l
  · obtain ⟨a, b, c⟩ := crc_len h.1 h.2
    have hne : crcOf (l, x) ≠ [] := fun e => by rw [e] at b; simp at b
    refine ⟨⟨fun _ => by omega, fun _ => hne⟩, fun _ => ⟨by omega, by omega⟩⟩
  · have e := crcOf_no h
    rw [e]
    refine ⟨⟨fun c => absurd rfl c, fun c => ?_⟩, fun c => absurd rfl c⟩
    by_cases hd : Dv x
    · rw [endOf_more hd (fun q => h ⟨hd, q⟩)] at c; omega
    · by_cases hx : x = 0
      · subst hx; rw [endOf_zero] at c; omega
      · rw [endOf_high hd hx] at c; omega

/-- Numbers that lead round: each one's proper sum is the next one's, the last one's the first. -/
def Cy (C : List Int) : Prop := (∀ j, j < C.length → prop (C.getD j 0) = C.getD ((j + 1) % C.length) 0) ∧ (∀ y ∈ C, Dv y) ∧ C.Nodup
theorem crc_cy {n : Int} {m : Nat} (hn : Dv n) (hm : 1 ≤ m) (h : crcOf (runR n m) ≠ []) : Cy (crcOf (runR n m)) := by
  have hch := runR_chain n m
  have hnd := runR_distinct n m
  have hdv := (runR_props hn hm).1
  obtain ⟨R, hR⟩ : ∃ R, R = runR n m := ⟨_, rfl⟩
  rw [← hR] at hch hnd hdv h ⊢
  obtain ⟨l, x⟩ := R
  dsimp only at hch hnd hdv
  by_cases hx : Dv x ∧ x ∈ l
  · have hk := plc_lt hx.2
    have hg := ixN_get hx.2
    rw [crcOf_in hx.1 hx.2]
    obtain ⟨k, hkk⟩ : ∃ k, k = plc x l := ⟨_, rfl⟩
    rw [← hkk] at hk hg ⊢
    have hget : ∀ j, (l.drop k).getD j 0 = l.getD (k + j) 0 := fun j => by simp [List.getD_eq_getElem?_getD, List.getElem?_drop]
    refine ⟨fun j hj => ?_, fun y hy => hdv y (List.mem_of_mem_drop hy), hnd.sublist (List.drop_sublist _ _)⟩
    rw [List.length_drop] at hj ⊢
    rw [hget, hget]
    by_cases hl : j + 1 < l.length - k
    · rw [Nat.mod_eq_of_lt hl, hch.1 (k + j) (by omega)]
      rfl
    · have e : j + 1 = l.length - k := by omega
      rw [e, Nat.mod_self, Nat.add_zero, hg, show k + j = l.length - 1 by omega]
      exact hch.2 (by omega)
  · exact absurd (crcOf_no hx) h

/-- A list turned to begin with what stands at q. -/
def rot (C : List Int) (q : Nat) : List Int := C.drop q ++ C.take q
theorem rot_len {C : List Int} {q : Nat} (h : q ≤ C.length) : (rot C q).length = C.length := by simp [rot]; omega
theorem rot_get {C : List Int} {q j : Nat} (hq : q < C.length) (hj : j < C.length) : (rot C q).getD j 0 = C.getD ((q + j) % C.length) 0 := by
  unfold rot
  by_cases h : q + j < C.length
  · rw [getD_app_l (by simp; omega), Nat.mod_eq_of_lt h]
    simp [List.getD_eq_getElem?_getD, List.getElem?_drop]
  · rw [getD_app_r (by simp; omega), List.length_drop, Nat.mod_eq_sub_mod (by omega), Nat.mod_eq_of_lt (by omega)]
    simp only [List.getD_eq_getElem?_getD, List.getElem?_take]
    rw [if_pos (by omega), show j - (C.length - q) = q + j - C.length by omega]
theorem Cy.rot {C : List Int} {q : Nat} (h : Cy C) (hq : q < C.length) : Cy (rot C q) := by
  refine ⟨fun j hj => ?_, fun y hy => ?_, ?_⟩
  · rw [rot_len (by omega)] at hj ⊢
    rw [rot_get hq hj, rot_get hq (Nat.mod_lt _ (by omega)), h.1 _ (Nat.mod_lt _ (by omega))]
    congr 1
    rw [Nat.mod_add_mod, Nat.add_mod_mod, Nat.add_assoc]
  · unfold Go.Proofs.Ytlpmfapjgmhbhaa.rot at hy
    rcases List.mem_append.1 hy with hy | hy
    · exact h.2.1 y (List.mem_of_mem_drop hy)
    · exact h.2.1 y (List.mem_of_mem_take hy)
  · have hp : (Go.Proofs.Ytlpmfapjgmhbhaa.rot C q).Perm C := by
      unfold Go.Proofs.Ytlpmfapjgmhbhaa.rot
      exact List.perm_append_comm.trans (by rw [List.take_append_drop])
    exact hp.nodup_iff.2 h.2.2

theorem nodup_ne {C : List Int} (h : C.Nodup) {i j : Nat} (hi : i < C.length) (hj : j < i) : C.getD j 0 ≠ C.getD i 0 := by
  have h2 := (List.pairwise_iff_getElem.1 h) j i (by omega) hi hj
  rw [getD_lt (by omega), getD_lt hi]
  exact h2
/-- The first number of a circle has a partner exactly if there are two. -/
theorem Cy.partner {C : List Int} (h : Cy C) (h1 : 1 ≤ C.length) : (C.length = 2 → ptn (C.getD 0 0) = C.getD 1 0 ∧ C.getD 1 0 ≠ 0) ∧ (C.length ≠ 2 → ptn (C.getD 0 0) = 0) := by
  have hmem : ∀ j, j < C.length → Dv (C.getD j 0) := fun j hj => h.2.1 _ (by rw [getD_lt hj]; exact List.getElem_mem hj)
  constructor
  · intro h2
    have e0 := h.1 0 (by omega)
    have e1 := h.1 1 (by omega)
    rw [h2] at e0 e1
    have hn := nodup_ne h.2.2 (i := 1) (j := 0) (by omega) (by omega)
    have hd := hmem 1 (by omega)
    simp only [Nat.zero_add, show 1 % 2 = 1 from rfl, show (1 + 1) % 2 = 0 from rfl] at e0 e1
    refine ⟨?_, fun c => by have := hd.1; omega⟩
    unfold ptn
    rw [if_pos ⟨by rw [e0]; exact fun c => hn c.symm, by rw [e0]; exact hd, by rw [e0]; exact e1⟩, e0]
  · intro h2
    unfold ptn
    rw [if_neg ?_]
    rintro ⟨c1, c2, c3⟩
    by_cases h3 : C.length = 1
    · have e0 := h.1 0 (by omega)
      rw [h3] at e0
      exact c1 e0
    · have e0 := h.1 0 (by omega)
      have e1 := h.1 1 (by omega)
      rw [Nat.mod_eq_of_lt (by omega)] at e0 e1
      rw [e0] at c3
      simp only [Nat.zero_add] at c3
      rw [e1] at c3
      exact nodup_ne h.2.2 (i := 2) (j := 0) (by omega) (by omega) c3.symm
theorem ptn_back {m : Int} (hm : Dv m) (h : ptn m ≠ 0) : Dv (ptn m) ∧ ptn (ptn m) = m ∧ ptn m ≠ m := by
  by_cases c : prop m ≠ m ∧ Dv (prop m) ∧ prop (prop m) = m
  · have e : ptn m = prop m := by unfold ptn; rw [if_pos c]
    obtain ⟨c1, c2, c3⟩ := c
    rw [e]
    refine ⟨c2, ?_, c1⟩
    unfold ptn
    rw [if_pos ⟨by rw [c3]; exact fun q => c1 q.symm, by rw [c3]; exact hm, by rw [c3]⟩, c3]
  · exact absurd (by unfold ptn; rw [if_neg c]) h

end Go.Proofs.Ytlpmfapjgmhbhaa
