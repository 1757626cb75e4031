/-
  The told cycles: each number on a cycle lies on one of them; numbers on one cycle.
-/
import Derived.Test.YticagncemlnafaaPZ
namespace Go.Proofs.Yticagncemlnafaa
open Go.RowKit
set_option linter.unusedVariables false
set_option linter.unusedSimpArgs false

theorem least_mem : ∀ (l : List Nat), l ≠ [] → ∃ z ∈ l, ∀ t ∈ l, z ≤ t
  | [], h => absurd rfl h
  | [a], _ => ⟨a, by simp, fun t ht => by simp at ht; omega⟩
  | a :: b :: l, _ => by
    obtain ⟨z, hz, hm⟩ := least_mem (b :: l) (by simp)
    by_cases h : a ≤ z
    · refine ⟨a, by simp, fun t ht => ?_⟩
      rcases List.mem_cons.1 ht with rfl | ht
      · omega
      · have := hm t ht; omega
    · refine ⟨z, List.mem_cons_of_mem _ hz, fun t ht => ?_⟩
      rcases List.mem_cons.1 ht with rfl | ht
      · omega
      · exact hm t ht

theorem lead_ex {f : Nat → Nat} {n y : Nat} (h : Into f n) (hc : cyc f n y = true) : ∃ x, x < n ∧ lead f n x = true ∧ y ∈ rnd f n x := by
  obtain ⟨z, hz, hm⟩ := least_mem (rnd f n y) (List.ne_nil_of_mem (mem_rnd_any h hc 0))
  obtain ⟨h1, h2⟩ := rnd_back h hc hz
  refine ⟨z, cyc_lt h h2, (lead_iff h).2 ⟨h2, fun t ht => hm t (rnd_trans h hc hz ht)⟩, h1⟩

theorem lead_one {f : Nat → Nat} {n x z y : Nat} (h : Into f n) (hx : lead f n x = true) (hz : lead f n z = true) (h1 : y ∈ rnd f n x) (h2 : y ∈ rnd f n z) : x = z := by
  obtain ⟨cx, mx⟩ := (lead_iff h).1 hx
  obtain ⟨cz, mz⟩ := (lead_iff h).1 hz
  have a1 := (rnd_back h cx h1).1
  have a2 := (rnd_back h cz h2).1
  have := mx z (rnd_trans h cx h1 a2)
  have := mz x (rnd_trans h cz h2 a1)
  omega

theorem per_it {f : Nat → Nat} {n y : Nat} (h : Into f n) (hc : cyc f n y = true) (k : Nat) : per f n (it f k y) = per f n y := by
  have hck := cyc_it h hc k
  have key : ∀ j, it f j (it f k y) = it f k y ↔ it f j y = y := by
    intro j
    rw [← it_add]
    constructor
    · intro he
      obtain ⟨p1, p2, p3, p4⟩ := per_spec h hc
      have e1 : it f (k * per f n y - k) (it f (j + k) y) = it f (k * per f n y - k) (it f k y) := by rw [he]
      have hle : k ≤ k * per f n y := Nat.le_mul_of_pos_right _ (by omega)
      rw [← it_add, ← it_add, show k * per f n y - k + (j + k) = j + k * per f n y from by omega, show k * per f n y - k + k = k * per f n y from by omega, it_add f j, it_mul p3] at e1
      exact e1
    · intro he
      rw [Nat.add_comm, it_add, he]
  obtain ⟨p1, p2, p3, p4⟩ := per_spec h hc
  exact per_eq h hck p1 ((key _).2 p3) fun j h1 h2 he => p4 j h1 h2 ((key j).1 he)

theorem cycs_get {f : Nat → Nat} {n i : Nat} {l : List Nat} (hl : (cycs f n)[i]? = some l) : ∃ x, ((List.range n).filter (lead f n))[i]? = some x ∧ l = rnd f n x ∧ lead f n x = true ∧ x < n := by
  unfold cycs cycsTo at hl
  rw [List.getElem?_map] at hl
  cases hx : ((List.range n).filter (lead f n))[i]? with
  | none => rw [hx] at hl; cases hl
  | some x =>
    rw [hx] at hl
    simp only [Option.map_some, Option.some.injEq] at hl
    have hm := List.mem_of_getElem? hx
    rw [List.mem_filter, List.mem_range] at hm
    exact ⟨x, rfl, hl.symm, hm.2, hm.1⟩

theorem cycs_disj {f : Nat → Nat} {n i j y : Nat} {l m : List Nat} (h : Into f n) (hl : (cycs f n)[i]? = some l) (hm : (cycs f n)[j]? = some m) (h1 : y ∈ l) (h2 : y ∈ m) : i = j := by
  obtain ⟨x, hx, rfl, lx, _⟩ := cycs_get hl
  obtain ⟨z, hz, rfl, lz, _⟩ := cycs_get hm
  have he := lead_one h lx lz h1 h2
  subst he
  have hn : ((List.range n).filter (lead f n)).Pairwise (· < ·) := List.Pairwise.filter _ List.pairwise_lt_range
  obtain ⟨i1, i2⟩ := List.getElem?_eq_some_iff.1 hx
  obtain ⟨j1, j2⟩ := List.getElem?_eq_some_iff.1 hz
  by_cases h3 : i < j
  · have := List.pairwise_iff_getElem.1 hn i j i1 j1 h3
    omega
  · by_cases h4 : j < i
    · have := List.pairwise_iff_getElem.1 hn j i j1 i1 h4
      omega
    · omega

theorem cycs_has {f : Nat → Nat} {n y : Nat} (h : Into f n) (hc : cyc f n y = true) : ∃ (i : Nat) (l : List Nat), (cycs f n)[i]? = some l ∧ y ∈ l ∧ i < n := by
  obtain ⟨x, hx, hl, hy⟩ := lead_ex h hc
  obtain ⟨i, hi, he⟩ := List.getElem_of_mem (List.mem_filter.2 ⟨List.mem_range.2 hx, hl⟩ : x ∈ (List.range n).filter (lead f n))
  have hlen : i < (cycs f n).length := by unfold cycs cycsTo; rw [List.length_map]; exact hi
  refine ⟨i, rnd f n x, ?_, hy, Nat.lt_of_lt_of_le hlen (cycsTo_len f n n)⟩
  unfold cycs cycsTo
  rw [List.getElem?_map, List.getElem?_eq_getElem hi, he]
  rfl

theorem cycs_cyc {f : Nat → Nat} {n i y : Nat} {l : List Nat} (h : Into f n) (hl : (cycs f n)[i]? = some l) (hy : y ∈ l) : cyc f n y = true ∧ y < n := by
  obtain ⟨x, _, rfl, lx, _⟩ := cycs_get hl
  have := (rnd_back h ((lead_iff h).1 lx).1 hy).2
  exact ⟨this, cyc_lt h this⟩

theorem cycs_per {f : Nat → Nat} {n i y : Nat} {l : List Nat} (h : Into f n) (hl : (cycs f n)[i]? = some l) (hy : y ∈ l) : l.length = per f n y := by
  obtain ⟨x, _, rfl, lx, _⟩ := cycs_get hl
  obtain ⟨j, _, rfl⟩ := mem_rnd.1 hy
  rw [rnd_len, per_it h ((lead_iff h).1 lx).1]

/-- The index of the cycle on which y is. -/
def idx (f : Nat → Nat) (n y : Nat) : Nat := fst (fun i => match (cycs f n)[i]? with | some l => decide (y ∈ l) | none => false) n

theorem idx_eq {f : Nat → Nat} {n i y : Nat} {l : List Nat} (h : Into f n) (hl : (cycs f n)[i]? = some l) (hy : y ∈ l) : idx f n y = i := by
  have hi : i < (cycs f n).length := (List.getElem?_eq_some_iff.1 hl).1
  refine fst_eq n _ i (Nat.le_trans (Nat.le_of_lt hi) (cycsTo_len f n n)) (by simp [hl, hy]) fun j hj => ?_
  cases hm : (cycs f n)[j]? with
  | none => rfl
  | some m =>
    simp only [decide_eq_false_iff_not]
    intro hym
    have := cycs_disj h hm hl hym hy
    omega

theorem idx_spec {f : Nat → Nat} {n y : Nat} (h : Into f n) (hc : cyc f n y = true) : ∃ l, (cycs f n)[idx f n y]? = some l ∧ y ∈ l ∧ idx f n y < n := by
  obtain ⟨i, l, h1, h2, h3⟩ := cycs_has h hc
  rw [idx_eq h h1 h2]
  exact ⟨l, h1, h2, h3⟩

end Go.Proofs.Yticagncemlnafaa
