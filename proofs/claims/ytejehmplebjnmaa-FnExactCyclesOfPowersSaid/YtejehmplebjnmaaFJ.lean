/-
  The model's marks of what is seen; the cycles found so far; a cycle put among them (plain).
-/
import Derived.Test.YtejehmplebjnmaaFI
namespace Go.Proofs.Ytejehmplebjnmaa
open Go.RowKit
set_option linter.unusedVariables false
set_option linter.unusedSimpArgs false
set_option maxRecDepth 100000

/-- The marks after all runs from numbers below k. -/
def Inv (f : Nat → Nat) (n k : Nat) (s : Nat → Nat) : Prop := ∀ y, y < n → s y ≤ k ∧ (s y = 0 ↔ ∀ x, x < k → ∀ j, it f j x ≠ y)
/-- .. with the first j numbers of the run from k marked. -/
def sJ (f : Nat → Nat) (k j : Nat) (s : Nat → Nat) : Nat → Nat := fun y => if (List.range j).any (fun i => it f i k == y) = true then k + 1 else s y
theorem inv_zero (f : Nat → Nat) (n : Nat) : Inv f n 0 (fun _ => 0) := fun y _ => ⟨Nat.le_refl _, fun _ x hx => by omega, fun _ => rfl⟩
theorem sJ_zero (f : Nat → Nat) (k : Nat) (s : Nat → Nat) : sJ f k 0 s = s := by funext y; simp [sJ]
theorem sJ_any {f : Nat → Nat} {k j y : Nat} : ((List.range j).any fun i => it f i k == y) = true ↔ ∃ i, i < j ∧ it f i k = y := by simp
theorem sJ_step (f : Nat → Nat) (k j : Nat) (s : Nat → Nat) : (fun y => if y = it f j k then k + 1 else sJ f k j s y) = sJ f k (j + 1) s := by
  funext y
  unfold sJ
  by_cases e : y = it f j k
  · subst e
    rw [if_pos rfl, if_pos (sJ_any.2 ⟨j, by omega, rfl⟩)]
  · rw [if_neg e]
    by_cases h : ∃ i, i < j ∧ it f i k = y
    · obtain ⟨i, hi, he⟩ := h
      rw [if_pos (sJ_any.2 ⟨i, hi, he⟩), if_pos (sJ_any.2 ⟨i, by omega, he⟩)]
    · rw [if_neg (fun h2 => h (sJ_any.1 h2)), if_neg]
      intro h2
      obtain ⟨i, hi, he⟩ := sJ_any.1 h2
      by_cases e2 : i = j
      · subst e2; exact e he.symm
      · exact h ⟨i, by omega, he⟩
theorem sJ_yes {f : Nat → Nat} {k j y : Nat} {s : Nat → Nat} (h : ∃ i, i < j ∧ it f i k = y) : sJ f k j s y = k + 1 := by unfold sJ; rw [if_pos (sJ_any.2 h)]
theorem sJ_no {f : Nat → Nat} {k j y : Nat} {s : Nat → Nat} (h : ¬ ∃ i, i < j ∧ it f i k = y) : sJ f k j s y = s y := by unfold sJ; rw [if_neg (fun h2 => h (sJ_any.1 h2))]

/-- How many marks are still missing. -/
def zs (n : Nat) (s : Nat → Nat) : Nat := cnt n (fun y => s y == 0)
theorem zs_mark {n x q : Nat} {s : Nat → Nat} (hx : x < n) (h : s x = 0) (hq : q ≠ 0) : zs n (fun y => if y = x then q else s y) + 1 = zs n s := by
  have h1 := cnt_del (fun y => s y == 0) x n hx
  have h2 : cnt n (adj (fun y => s y == 0) x false) = zs n (fun y => if y = x then q else s y) := cnt_congr fun y _ => by
    unfold adj
    by_cases e : y = x
    · subst e; simp [hq]
    · simp [e]
  rw [h2, if_pos (by simp [h])] at h1
  exact h1

theorem bd_sJ {f : Nat → Nat} {n k j : Nat} {s : Nat → Nat} (h : Inv f n k s) {y : Nat} (hy : y < n) : sJ f k j s y ≤ k + 1 := by
  by_cases hm : ∃ i, i < j ∧ it f i k = y
  · rw [sJ_yes hm]; exact Nat.le_refl _
  · rw [sJ_no hm]; have := (h y hy).1; omega

/-- The run from k comes to what was seen before. -/
theorem inv_old {f : Nat → Nat} {n k j : Nat} {s : Nat → Nat} (hi : Into f n) (h : Inv f n k s) (hk : k < n) (h0 : ∀ i, i < j → s (it f i k) = 0) (hs : sJ f k j s (it f j k) ≠ 0) (hn : sJ f k j s (it f j k) ≠ k + 1) :
    Inv f n (k + 1) (sJ f k j s) ∧ ∀ m, lead f n m = true → ((sJ f k j s m ≠ 0) ↔ s m ≠ 0) := by
  have hno : ¬ ∃ i, i < j ∧ it f i k = it f j k := fun h2 => hn (sJ_yes h2)
  rw [sJ_no hno] at hs
  have hxn := it_lt hi j hk
  have hold : ∃ x, x < k ∧ ∃ i, it f i x = it f j k := by
    refine Classical.byContradiction fun hc => hs ((h _ hxn).2.2 fun x hx i he => hc ⟨x, hx, i, he⟩)
  obtain ⟨x0, hx0, i0, he0⟩ := hold
  have hlate : ∀ i y, j ≤ i → it f i k = y → ∃ x, x < k ∧ ∃ t, it f t x = y := fun i y hi2 he => ⟨x0, hx0, (i - j) + i0, by rw [it_add, he0, ← it_add, show i - j + j = i from by omega, he]⟩
  refine ⟨fun y hy => ⟨bd_sJ h hy, ?_, ?_⟩, fun m hm => ?_⟩
  · intro hz x hx i he
    by_cases hm : ∃ i, i < j ∧ it f i k = y
    · rw [sJ_yes hm] at hz; omega
    · rw [sJ_no hm] at hz
      have hnone := (h y hy).2.1 hz
      by_cases e : x = k
      · subst e
        by_cases hij : i < j
        · exact hm ⟨i, hij, he⟩
        · obtain ⟨x1, hx1, t, ht⟩ := hlate i y (by omega) he
          exact hnone x1 hx1 t ht
      · exact hnone x (by omega) i he
  · intro hall
    have hm : ¬ ∃ i, i < j ∧ it f i k = y := fun ⟨i, _, he⟩ => hall k (by omega) i he
    rw [sJ_no hm]
    exact (h y hy).2.2 fun x hx => hall x (by omega)
  · by_cases hmm : ∃ i, i < j ∧ it f i k = m
    · obtain ⟨i, hij, he⟩ := hmm
      exfalso
      have hc := ((lead_iff hi).1 hm).1
      obtain ⟨p1, p2, p3, p4⟩ := per_spec hi hc
      have hz := h0 i hij
      rw [he] at hz
      have hmn := cyc_lt hi hc
      have e2 : it f (j * per f n m + i) k = m := by rw [it_add, he, it_mul p3]
      have hle : j ≤ j * per f n m := Nat.le_mul_of_pos_right j p1
      obtain ⟨x1, hx1, t, ht⟩ := hlate _ m (by omega) e2
      exact (h m hmn).2.1 hz x1 hx1 t ht
    · rw [sJ_no hmm]

/-- The run from k comes to a new cycle. -/
theorem inv_new {f : Nat → Nat} {n k j : Nat} {s : Nat → Nat} (hi : Into f n) (h : Inv f n k s) (hk : k < n) (h0 : ∀ i, i < j → s (it f i k) = 0) (hs : sJ f k j s (it f j k) = k + 1) :
    cyc f n (it f j k) = true ∧ Inv f n (k + 1) (sJ f k j s) ∧ ∀ m0, lead f n m0 = true → m0 ∈ rnd f n (it f j k) → s m0 = 0 ∧ ∀ m, lead f n m = true → ((sJ f k j s m ≠ 0) ↔ s m ≠ 0 ∨ m = m0) := by
  have hxn := it_lt hi j hk
  have hyes : ∃ i, i < j ∧ it f i k = it f j k := by
    refine Classical.byContradiction fun hc => ?_
    rw [sJ_no hc] at hs
    have := (h _ hxn).1
    omega
  obtain ⟨i0, hi0, he0⟩ := hyes
  have hper : it f (j - i0) (it f j k) = it f j k := by
    conv => lhs; rw [← he0]
    rw [← it_add, show j - i0 + i0 = j from by omega]
  have hc := cyc_of_per hi hxn (by omega) hper
  have hback : ∀ i, ∃ t, t < j ∧ it f i k = it f t k := by
    intro i
    induction i using Nat.strongRecOn with
    | ind i ih =>
      by_cases hij : i < j
      · exact ⟨i, hij, rfl⟩
      · obtain ⟨t, ht, he⟩ := ih (i - (j - i0)) (by omega)
        refine ⟨t, ht, ?_⟩
        rw [← he]
        have e1 : it f i k = it f (i - j) (it f j k) := by rw [← it_add, show i - j + j = i from by omega]
        rw [e1, ← he0, ← it_add]
        congr 1
        omega
  have hfresh : ∀ i x, x < k → ∀ t, it f t x ≠ it f i k := by
    intro i x hx t he
    obtain ⟨t2, ht2, he2⟩ := hback i
    exact (h _ (it_lt hi t2 hk)).2.1 (h0 t2 ht2) x hx t (he.trans he2)
  refine ⟨hc, fun y hy => ⟨bd_sJ h hy, ?_, ?_⟩, fun m0 hl0 hm0 => ?_⟩
  · intro hz x hx i he
    by_cases hm : ∃ i, i < j ∧ it f i k = y
    · rw [sJ_yes hm] at hz; omega
    · rw [sJ_no hm] at hz
      by_cases e : x = k
      · subst e
        obtain ⟨t, ht, he2⟩ := hback i
        exact hm ⟨t, ht, he2.symm.trans he⟩
      · exact (h y hy).2.1 hz x (by omega) i he
  · intro hall
    have hm : ¬ ∃ i, i < j ∧ it f i k = y := fun ⟨i, _, he⟩ => hall k (by omega) i he
    rw [sJ_no hm]
    exact (h y hy).2.2 fun x hx => hall x (by omega)
  · obtain ⟨t0, ht0, het0⟩ := mem_rnd.1 hm0
    have hm0k : it f (t0 + j) k = m0 := by rw [it_add, het0]
    have hz0 : s m0 = 0 := by
      rw [← hm0k]
      exact (h _ (it_lt hi _ hk)).2.2 fun x hx t => hfresh _ x hx t
    refine ⟨hz0, fun m hm => ?_⟩
    constructor
    · intro hne
      by_cases hmm : ∃ i, i < j ∧ it f i k = m
      · right
        obtain ⟨i, hij, he⟩ := hmm
        have hcm := ((lead_iff hi).1 hm).1
        obtain ⟨p1, p2, p3, p4⟩ := per_spec hi hcm
        have e2 : it f (j * per f n m + i) k = m := by rw [it_add, he, it_mul p3]
        have hle : j ≤ j * per f n m := Nat.le_mul_of_pos_right j p1
        have e3 : it f (j * per f n m + i - j) (it f j k) = m := by rw [← it_add, show j * per f n m + i - j + j = j * per f n m + i from by omega, e2]
        have hmr : m ∈ rnd f n (it f j k) := e3 ▸ mem_rnd_any hi hc _
        have hb1 := rnd_back hi hc hm0
        have hb2 := rnd_back hi hc hmr
        have r1 : m ∈ rnd f n m0 := rnd_trans hi hb1.2 hb1.1 hmr
        have r2 : m0 ∈ rnd f n m := rnd_trans hi hb2.2 hb2.1 hm0
        have l1 := ((lead_iff hi).1 hl0).2 m r1
        have l2 := ((lead_iff hi).1 hm).2 m0 r2
        omega
      · rw [sJ_no hmm] at hne; exact .inl hne
    · rintro (hne | rfl)
      · by_cases hmm : ∃ i, i < j ∧ it f i k = m
        · rw [sJ_yes hmm]; omega
        · rw [sJ_no hmm]; exact hne
      · obtain ⟨t, ht, he2⟩ := hback (t0 + j)
        rw [sJ_yes ⟨t, ht, he2.symm.trans hm0k⟩]; omega

/-- The first numbers of the cycles found so far. -/
def ld (f : Nat → Nat) (n : Nat) (s : Nat → Nat) : List Nat := (List.range n).filter fun m => lead f n m && decide (s m ≠ 0)
theorem ld_zero (f : Nat → Nat) (n : Nat) : ld f n (fun _ => 0) = [] := by
  unfold ld
  rw [List.filter_eq_nil_iff]
  intro m _
  simp
theorem ld_congr {f : Nat → Nat} {n : Nat} {s t : Nat → Nat} (h : ∀ m, lead f n m = true → ((t m ≠ 0) ↔ s m ≠ 0)) : ld f n t = ld f n s := by
  unfold ld
  refine List.filter_congr fun m _ => ?_
  cases hl : lead f n m
  · rfl
  · rw [Bool.true_and, Bool.true_and, decide_eq_decide]; exact h m hl
theorem ld_all {f : Nat → Nat} {n : Nat} {s : Nat → Nat} (h : Inv f n n s) : (ld f n s).map (rnd f n) = cycs f n := by
  unfold cycs cycsTo ld
  congr 1
  refine List.filter_congr fun m hm => ?_
  rw [List.mem_range] at hm
  have : s m ≠ 0 := fun hz => (h m hm).2.1 hz m hm 0 rfl
  simp [this]
theorem ld_len (f : Nat → Nat) (n : Nat) (s : Nat → Nat) : (ld f n s).length ≤ n := by
  unfold ld
  have := List.length_filter_le (fun m => lead f n m && decide (s m ≠ 0)) (List.range n)
  rw [List.length_range] at this
  exact this

theorem put_split (P Q : Nat → Bool) (m : Nat) (hP : P m = false) (hQ : Q m = true) (he : ∀ x, x ≠ m → Q x = P x) : ∀ d, ∃ l2 : List Nat, (List.range (m + 1 + d)).filter P = (List.range m).filter P ++ l2 ∧ (List.range (m + 1 + d)).filter Q = (List.range m).filter P ++ m :: l2 ∧ ∀ z ∈ l2, m < z
  | 0 => ⟨[], by rw [Nat.add_zero, List.range_succ, List.filter_append]; simp [hP], by
      rw [Nat.add_zero, List.range_succ, List.filter_append]
      have : (List.range m).filter Q = (List.range m).filter P := List.filter_congr fun x hx => he x (by rw [List.mem_range] at hx; omega)
      rw [this]; simp [hQ], by simp⟩
  | d + 1 => by
    obtain ⟨l2, h1, h2, h3⟩ := put_split P Q m hP hQ he d
    have hq := he (m + 1 + d) (by omega)
    rw [← Nat.add_assoc, List.range_succ, List.filter_append, List.filter_append, h1, h2]
    by_cases hp : P (m + 1 + d) = true
    · refine ⟨l2 ++ [m + 1 + d], ?_, ?_, ?_⟩
      · simp [hp]
      · rw [hp] at hq; simp [hq]
      · intro z hz
        rw [List.mem_append, List.mem_singleton] at hz
        rcases hz with hz | rfl
        · exact h3 z hz
        · omega
    · have hp' : P (m + 1 + d) = false := by simpa using hp
      rw [hp'] at hq
      exact ⟨l2, by simp [hp'], by simp [hq], h3⟩

/-- A new cycle's place. -/
theorem ld_put {f : Nat → Nat} {n : Nat} {s t : Nat → Nat} {m0 : Nat} (hm : m0 < n) (hl : lead f n m0 = true) (hz : s m0 = 0) (h : ∀ m, lead f n m = true → ((t m ≠ 0) ↔ s m ≠ 0 ∨ m = m0)) :
    ∃ i, i ≤ (ld f n s).length ∧ ld f n t = (ld f n s).take i ++ [m0] ++ (ld f n s).drop i ∧ (∀ j (hj : j < (ld f n s).length), j < i → (ld f n s)[j] < m0) ∧ ∀ (hj : i < (ld f n s).length), m0 < (ld f n s)[i] := by
  obtain ⟨d, hd⟩ : ∃ d, n = m0 + 1 + d := ⟨n - (m0 + 1), by omega⟩
  obtain ⟨l2, h1, h2, h3⟩ := put_split (fun m => lead f n m && decide (s m ≠ 0)) (fun m => lead f n m && decide (t m ≠ 0)) m0 (by simp [hz]) (by
      rw [hl, Bool.true_and]; exact decide_eq_true ((h m0 hl).2 (.inr rfl))) (fun x hx => by
      cases hlx : lead f n x
      · rfl
      · rw [Bool.true_and, Bool.true_and, decide_eq_decide]
        exact (h x hlx).trans ⟨fun hh => hh.elim id (fun e => absurd e hx), .inl⟩) d
  rw [← hd] at h1 h2
  have e1 : ld f n s = ((List.range m0).filter fun m => lead f n m && decide (s m ≠ 0)) ++ l2 := h1
  have e2 : ld f n t = ((List.range m0).filter fun m => lead f n m && decide (s m ≠ 0)) ++ m0 :: l2 := h2
  obtain ⟨l1, hl1⟩ : ∃ l1, l1 = (List.range m0).filter fun m => lead f n m && decide (s m ≠ 0) := ⟨_, rfl⟩
  rw [← hl1] at e1 e2
  have hlt : ∀ z ∈ l1, z < m0 := fun z hzz => by rw [hl1, List.mem_filter, List.mem_range] at hzz; exact hzz.1
  rw [e1, e2]
  refine ⟨l1.length, by simp, by simp, fun j hj hj2 => ?_, fun hj => ?_⟩
  · rw [List.getElem_append_left hj2]
    exact hlt _ (List.getElem_mem hj2)
  · rw [List.getElem_append_right (Nat.le_refl _)]
    exact h3 _ (List.getElem_mem _)

end Go.Proofs.Ytejehmplebjnmaa
