/-
  Divisors of a product that are products of digits, told one after the other: plain mathematics of the model's list.
-/
import Derived.Test.YtedpplonclonkaaWS
namespace Go.Proofs.Ytedpplonclonkaa
open Go.RowKit
set_option linter.unusedVariables false
set_option linter.unusedSimpArgs false

/-- The share of y that is told behind the digit d of the divisor c. -/
def wpL (b c d y : Nat) : Nat → Nat → Nat
  | 0, _ => 0
  | k + 1, e => (if y % e = 0 ∧ (y / e < c ∨ (y / e = c ∧ e < d)) then ct b (y / e) else 0) + wpL b c d y k (e + 1)
def fp (b c d y : Nat) : Nat := if y = 1 then 1 else wpL b c d y (b - 2) 2

theorem wpL_full {b c d y : Nat} (hy : 1 ≤ y) (hc : y ≤ c) : ∀ (k e : Nat), 2 ≤ e → wpL b c d y k e = ctL (ct b) y k e
  | 0, e, _ => rfl
  | k + 1, e, he => by
    rw [wpL, ctL, wpL_full hy hc k (e + 1) (by omega)]
    by_cases hm : y % e = 0
    · have : y / e < y := Nat.div_lt_self (by omega) (by omega)
      rw [if_pos ⟨hm, .inl (by omega)⟩, if_pos hm]
    · rw [if_neg (fun h => hm h.1), if_neg hm]
theorem fp_full {b c d y : Nat} (hy : 1 ≤ y) (hc : y ≤ c) : fp b c d y = ct b y := by
  unfold fp
  by_cases h1 : y = 1
  · rw [if_pos h1, ct_one b y (by omega)]
  · rw [if_neg h1, ct_step b y (by omega), wpL_full hy hc _ _ (by omega)]

theorem mul_div_eq {y d c : Nat} (hd : 1 ≤ d) : (y % d = 0 ∧ y / d = c) ↔ y = c * d := by
  constructor
  · rintro ⟨h1, rfl⟩; exact (Nat.div_mul_cancel (Nat.dvd_of_mod_eq_zero h1)).symm
  · rintro rfl; exact ⟨Nat.mul_mod_left c d, Nat.mul_div_cancel c (by omega)⟩

theorem wpL_step {b c d y : Nat} (hd : 2 ≤ d) : ∀ (k e : Nat), 2 ≤ e → wpL b c (d + 1) y k e = wpL b c d y k e + (if e ≤ d ∧ d < e + k ∧ y = c * d then ct b c else 0)
  | 0, e, _ => by rw [wpL, wpL, if_neg (by omega)]
  | k + 1, e, he => by
    rw [wpL, wpL, wpL_step hd k (e + 1) (by omega)]
    by_cases hed : e = d
    · subst hed
      have hno : ¬ (e + 1 ≤ e ∧ e < e + 1 + k ∧ y = c * e) := by omega
      rw [if_neg hno]
      by_cases hy : y = c * e
      · obtain ⟨m1, m2⟩ := (mul_div_eq (show 1 ≤ e by omega)).2 hy
        rw [if_pos ⟨m1, .inr ⟨m2, by omega⟩⟩, if_neg (fun h => by rcases h.2 with h | h <;> omega), if_pos ⟨by omega, by omega, hy⟩, m2]
        omega
      · rw [if_neg (show ¬ (e ≤ e ∧ e < e + (k + 1) ∧ y = c * e) from fun h => hy h.2.2)]
        have : (y % e = 0 ∧ (y / e < c ∨ (y / e = c ∧ e < e + 1))) ↔ (y % e = 0 ∧ (y / e < c ∨ (y / e = c ∧ e < e))) := by
          constructor
          · rintro ⟨h1, h2 | h2⟩
            · exact ⟨h1, .inl h2⟩
            · exact absurd ((mul_div_eq (show 1 ≤ e by omega)).1 ⟨h1, h2.1⟩) hy
          · rintro ⟨h1, h2 | h2⟩
            · exact ⟨h1, .inl h2⟩
            · omega
        by_cases hc : y % e = 0 ∧ (y / e < c ∨ (y / e = c ∧ e < e + 1))
        · rw [if_pos hc, if_pos (this.1 hc)]; omega
        · rw [if_neg hc, if_neg (fun h => hc (this.2 h))]; omega
    · have hiff : (y % e = 0 ∧ (y / e < c ∨ (y / e = c ∧ e < d + 1))) ↔ (y % e = 0 ∧ (y / e < c ∨ (y / e = c ∧ e < d))) := by
        constructor
        · rintro ⟨h1, h2 | h2⟩
          · exact ⟨h1, .inl h2⟩
          · exact ⟨h1, .inr ⟨h2.1, by omega⟩⟩
        · rintro ⟨h1, h2 | h2⟩
          · exact ⟨h1, .inl h2⟩
          · exact ⟨h1, .inr ⟨h2.1, by omega⟩⟩
      have hiff2 : (e + 1 ≤ d ∧ d < e + 1 + k ∧ y = c * d) ↔ (e ≤ d ∧ d < e + (k + 1) ∧ y = c * d) := by
        constructor
        · rintro ⟨h1, h2, h3⟩; exact ⟨by omega, by omega, h3⟩
        · rintro ⟨h1, h2, h3⟩; exact ⟨by omega, by omega, h3⟩
      by_cases hc : y % e = 0 ∧ (y / e < c ∨ (y / e = c ∧ e < d + 1))
      · rw [if_pos hc, if_pos (hiff.1 hc)]
        by_cases h2 : e + 1 ≤ d ∧ d < e + 1 + k ∧ y = c * d
        · rw [if_pos h2, if_pos (hiff2.1 h2)]; omega
        · rw [if_neg h2, if_neg (fun h => h2 (hiff2.2 h))]; omega
      · rw [if_neg hc, if_neg (fun h => hc (hiff.2 h))]
        by_cases h2 : e + 1 ≤ d ∧ d < e + 1 + k ∧ y = c * d
        · rw [if_pos h2, if_pos (hiff2.1 h2)]; omega
        · rw [if_neg h2, if_neg (fun h => h2 (hiff2.2 h))]; omega

/-- One digit more of the divisor c. -/
theorem fp_step {b c d y : Nat} (hd : 2 ≤ d) (hdb : d < b) (hc : 1 ≤ c) : fp b c (d + 1) y = fp b c d y + (if y = c * d then ct b c else 0) := by
  unfold fp
  by_cases h1 : y = 1
  · have : ¬ y = c * d := by
      intro h
      have : 1 * 2 ≤ c * d := Nat.mul_le_mul hc hd
      omega
    rw [if_pos h1, if_pos h1, if_neg this]
  · rw [if_neg h1, if_neg h1, wpL_step hd _ _ (Nat.le_refl 2)]
    by_cases hy : y = c * d
    · rw [if_pos ⟨by omega, by omega, hy⟩, if_pos hy]
    · rw [if_neg (fun h => hy h.2.2), if_neg hy]

/-- From a divisor to the next one. -/
theorem wpL_next {b c c' p y : Nat} (hcc : c < c') (hgap : ∀ z, c < z → z < c' → z ∣ p → ct b z = 0) (hy : y ∣ p) : ∀ (k e : Nat), 2 ≤ e → e + k ≤ b → wpL b c b y k e = wpL b c' 2 y k e
  | 0, e, _, _ => rfl
  | k + 1, e, he, hk => by
    rw [wpL, wpL, wpL_next hcc hgap hy k (e + 1) (by omega) (by omega)]
    congr 1
    by_cases hm : y % e = 0
    · have hdv : y / e ∣ p := Nat.dvd_trans (Nat.div_dvd_of_dvd (Nat.dvd_of_mod_eq_zero hm)) hy
      by_cases h1 : y / e ≤ c
      · rw [if_pos ⟨hm, by omega⟩, if_pos ⟨hm, .inl (by omega)⟩]
      · rw [if_neg (fun h => by rcases h.2 with h | h <;> omega)]
        by_cases h2 : y / e < c'
        · rw [if_pos ⟨hm, .inl h2⟩, hgap _ (by omega) h2 hdv]
        · rw [if_neg (fun h => by rcases h.2 with h | h <;> omega)]
    · rw [if_neg (fun h => hm h.1), if_neg (fun h => hm h.1)]
theorem fp_next {b c c' p y : Nat} (hb : 2 ≤ b) (hcc : c < c') (hgap : ∀ z, c < z → z < c' → z ∣ p → ct b z = 0) (hy : y ∣ p) : fp b c b y = fp b c' 2 y := by
  unfold fp
  by_cases h1 : y = 1
  · rw [if_pos h1, if_pos h1]
  · rw [if_neg h1, if_neg h1, wpL_next hcc hgap hy _ _ (by omega) (by omega)]

/-- What is told of a divisor with nothing between. -/
theorem wpL_all {b c p y : Nat} (hgap : ∀ z, c < z → z < y → z ∣ p → ct b z = 0) (hy : y ∣ p) (hy1 : 1 ≤ y) : ∀ (k e : Nat), 2 ≤ e → e + k ≤ b → ctL (ct b) y k e = wpL b c b y k e
  | 0, e, _, _ => rfl
  | k + 1, e, he, hk => by
    rw [wpL, ctL, wpL_all hgap hy hy1 k (e + 1) (by omega) (by omega)]
    congr 1
    by_cases hm : y % e = 0
    · have hdv : y / e ∣ p := Nat.dvd_trans (Nat.div_dvd_of_dvd (Nat.dvd_of_mod_eq_zero hm)) hy
      have hlt : y / e < y := Nat.div_lt_self (by omega) (by omega)
      rw [if_pos hm]
      by_cases h1 : y / e ≤ c
      · rw [if_pos ⟨hm, by omega⟩]
      · rw [if_neg (fun h => by rcases h.2 with h | h <;> omega), hgap _ (by omega) hlt hdv]
    · rw [if_neg hm, if_neg (fun h => hm h.1)]

/-- No product of digits lies among the divisors where none is told. -/
theorem gap_zero {b c c' p : Nat} (hb : 2 ≤ b) (hno : ∀ z, c < z → z < c' → z ∣ p → fp b c b z = 0) : ∀ z, c < z → z < c' → z ∣ p → ct b z = 0 := by
  intro z
  induction z using Nat.strongRecOn with
  | ind z ih =>
    intro h1 h2 hz
    have hf := hno z h1 h2 hz
    unfold fp at hf
    by_cases hz1 : z = 1
    · rw [if_pos hz1] at hf; omega
    · rw [if_neg hz1] at hf
      by_cases hz0 : z = 0
      · omega
      · rw [ct_step b z (by omega), wpL_all (c := c) (p := p) (fun y hy1 hy2 hyp => ih y hy2 hy1 (by omega) hyp) hz (by omega) _ _ (by omega) (by omega)]
        exact hf

/-- The beginning: only 1 is told. -/
theorem wpL_first {b y : Nat} (hy : 1 ≤ y) : ∀ (k e : Nat), 2 ≤ e → wpL b 1 2 y k e = 0
  | 0, e, _ => rfl
  | k + 1, e, he => by
    rw [wpL, wpL_first hy k (e + 1) (by omega), if_neg]
    rintro ⟨h1, h2 | h2⟩
    · have := Nat.div_mul_cancel (Nat.dvd_of_mod_eq_zero h1)
      have h0 : y / e = 0 := Nat.lt_one_iff.1 h2
      rw [h0] at this; omega
    · omega
theorem fp_first {b y : Nat} (hy : 1 ≤ y) : fp b 1 2 y = if y = 1 then 1 else 0 := by
  unfold fp
  rw [wpL_first hy _ _ (by omega)]

/-- What the model keeps: the divisors told so far, in order, and in how many ways. -/
structure Dv (b p c d : Nat) (D V : List Nat) : Prop where
  sorted : D.Pairwise (· < ·)
  mem : ∀ y, y ∈ D ↔ (1 ≤ y ∧ y ∣ p ∧ 1 ≤ fp b c d y)
  ways : V = D.map (fp b c d)

theorem Dv.start {b p : Nat} (hp : 1 ≤ p) : Dv b p 1 2 [1] [1] := by
  refine ⟨by simp, fun y => ?_, by simp [fp_first]⟩
  constructor
  · intro h
    simp at h; subst h
    exact ⟨Nat.le_refl _, Nat.one_dvd _, by rw [fp_first (Nat.le_refl _)]; simp⟩
  · rintro ⟨h1, _, h3⟩
    rw [fp_first h1] at h3
    by_cases e : y = 1
    · simp [e]
    · rw [if_neg e] at h3; omega

/-- A digit that leads to no divisor. -/
theorem Dv.skip {b p c d : Nat} {D V : List Nat} (h : Dv b p c d D V) (hd : 2 ≤ d) (hdb : d < b) (hc : 1 ≤ c) (hno : ¬ c * d ∣ p) : Dv b p c (d + 1) D V := by
  have hf : ∀ y, y ∣ p → fp b c (d + 1) y = fp b c d y := fun y hy => by
    rw [fp_step hd hdb hc, if_neg (fun e => hno (by rw [← e]; exact hy))]; omega
  refine ⟨h.sorted, fun y => ?_, ?_⟩
  · rw [h.mem y]
    constructor
    · rintro ⟨a, b', c'⟩; exact ⟨a, b', by rw [hf y b']; exact c'⟩
    · rintro ⟨a, b', c'⟩; exact ⟨a, b', by rw [← hf y b']; exact c'⟩
  · rw [h.ways]
    apply List.map_congr_left
    intro y hy
    exact (hf y ((h.mem y).1 hy).2.1).symm

theorem Dv.ct_c {b p c d : Nat} {D V : List Nat} (h : Dv b p c d D V) (hc : c ∈ D) : 1 ≤ c ∧ c ∣ p ∧ 1 ≤ ct b c := by
  obtain ⟨h1, h2, h3⟩ := (h.mem c).1 hc
  exact ⟨h1, h2, by rwa [fp_full h1 (Nat.le_refl c)] at h3⟩

theorem Dv.nodup {b p c d : Nat} {D V : List Nat} (h : Dv b p c d D V) : D.Nodup := h.sorted.imp (fun hlt => Nat.ne_of_lt hlt)

/-- A divisor that is there already. -/
theorem Dv.hit {b p c d i : Nat} {D V : List Nat} (h : Dv b p c d D V) (hd : 2 ≤ d) (hdb : d < b) (hc : c ∈ D) (hi : i < D.length) (he : D[i] = c * d) : Dv b p c (d + 1) D (V.set i (V.getD i 0 + ct b c)) := by
  have hc1 := (h.ct_c hc).1
  have hf : ∀ y, fp b c (d + 1) y = fp b c d y + (if y = c * d then ct b c else 0) := fun y => fp_step hd hdb hc1
  have hy0 : c * d ∈ D := by rw [← he]; exact List.getElem_mem hi
  refine ⟨h.sorted, fun y => ?_, ?_⟩
  · rw [h.mem y]
    constructor
    · rintro ⟨a, b', c'⟩; exact ⟨a, b', by rw [hf]; omega⟩
    · rintro ⟨a, b', c'⟩
      refine ⟨a, b', ?_⟩
      rw [hf] at c'
      by_cases e : y = c * d
      · rw [e]; exact ((h.mem _).1 hy0).2.2
      · rw [if_neg e] at c'; omega
  · apply List.ext_getElem
    · rw [List.length_set, h.ways, List.length_map, List.length_map]
    · intro j h1 h2
      rw [List.length_map] at h2
      have hV : V.length = D.length := by rw [h.ways, List.length_map]
      rw [List.getElem_set, List.getElem_map, hf]
      have hvj : ∀ (k : Nat) (hk : k < D.length), V[k]'(by omega) = fp b c d D[k] := fun k hk => by simp only [h.ways, List.getElem_map]
      by_cases e : i = j
      · subst e
        rw [if_pos rfl, if_pos he, List.getD_eq_getElem?_getD, List.getElem?_eq_getElem (by omega), Option.getD_some, hvj i hi]
      · have hne : D[j] ≠ c * d := fun hj => by
          rcases Nat.lt_trichotomy i j with hl | hl | hl
          · have := (List.pairwise_iff_getElem.1 h.sorted) i j (by omega) (by omega) hl
            omega
          · exact e (by omega)
          · have := (List.pairwise_iff_getElem.1 h.sorted) j i (by omega) (by omega) hl
            omega
        rw [if_neg e, if_neg hne, hvj j h2]; omega

/-- A new divisor. -/
theorem Dv.ins {b p c d t : Nat} {D V : List Nat} (h : Dv b p c d D V) (hd : 2 ≤ d) (hdb : d < b) (hc : c ∈ D) (hp : c * d ∣ p) (ht : t ≤ D.length) (h1 : ∀ y ∈ D.take t, y < c * d) (h2 : ∀ y ∈ D.drop t, c * d < y) :
    Dv b p c (d + 1) (D.take t ++ [c * d] ++ D.drop t) (V.take t ++ [ct b c] ++ V.drop t) := by
  obtain ⟨hc1, hc2, hc3⟩ := h.ct_c hc
  have hf : ∀ y, fp b c (d + 1) y = fp b c d y + (if y = c * d then ct b c else 0) := fun y => fp_step hd hdb hc1
  have hno : c * d ∉ D := by
    intro hm
    rw [← List.take_append_drop t D, List.mem_append] at hm
    rcases hm with hm | hm
    · exact Nat.lt_irrefl _ (h1 _ hm)
    · exact Nat.lt_irrefl _ (h2 _ hm)
  have hy1 : 1 ≤ c * d := Nat.mul_le_mul hc1 (by omega : 1 ≤ d)
  have hz : fp b c d (c * d) = 0 := by
    by_cases e : fp b c d (c * d) = 0
    · exact e
    · exact absurd ((h.mem _).2 ⟨hy1, hp, by omega⟩) hno
  have hS : (D.take t ++ D.drop t).Pairwise (· < ·) := by rw [List.take_append_drop]; exact h.sorted
  rw [List.pairwise_append] at hS
  refine ⟨?_, fun y => ?_, ?_⟩
  · rw [List.append_assoc, List.singleton_append, List.pairwise_append, List.pairwise_cons]
    refine ⟨hS.1, ⟨h2, hS.2.1⟩, fun a ha b' hb' => ?_⟩
    rcases List.mem_cons.1 hb' with rfl | hb'
    · exact h1 a ha
    · exact hS.2.2 a ha b' hb'
  · have hmem : y ∈ D.take t ++ [c * d] ++ D.drop t ↔ (y = c * d ∨ y ∈ D) := by
      rw [List.mem_append, List.mem_append, List.mem_singleton]
      constructor
      · rintro ((hm | hm) | hm)
        · exact .inr (List.mem_of_mem_take hm)
        · exact .inl hm
        · exact .inr (List.mem_of_mem_drop hm)
      · rintro (hm | hm)
        · exact .inl (.inr hm)
        · rw [← List.take_append_drop t D, List.mem_append] at hm
          rcases hm with hm | hm
          · exact .inl (.inl hm)
          · exact .inr hm
    rw [hmem]
    constructor
    · rintro (rfl | hm)
      · exact ⟨hy1, hp, by rw [hf, if_pos rfl]; omega⟩
      · obtain ⟨a, b', c'⟩ := (h.mem y).1 hm
        exact ⟨a, b', by rw [hf]; omega⟩
    · rintro ⟨a, b', c'⟩
      by_cases e : y = c * d
      · exact .inl e
      · rw [hf, if_neg e] at c'
        exact .inr ((h.mem y).2 ⟨a, b', by omega⟩)
  · rw [List.map_append, List.map_append, h.ways, ← List.map_take, ← List.map_drop]
    have e1 : (D.take t).map (fp b c d) = (D.take t).map (fp b c (d + 1)) := List.map_congr_left (fun y hy => by rw [hf, if_neg (Nat.ne_of_lt (h1 y hy))]; omega)
    have e2 : (D.drop t).map (fp b c d) = (D.drop t).map (fp b c (d + 1)) := List.map_congr_left (fun y hy => by rw [hf, if_neg (Nat.ne_of_gt (h2 y hy))]; omega)
    rw [e1, e2, List.map_singleton, hf, if_pos rfl, hz, Nat.zero_add]

/-- On to the next divisor. -/
theorem Dv.next {b p c k : Nat} {D V : List Nat} (h : Dv b p c b D V) (hb : 2 ≤ b) (hk : k + 1 < D.length) (hc : D[k]'(by omega) = c) : Dv b p (D[k + 1]) 2 D V := by
  have hlt : c < D[k + 1] := by rw [← hc]; exact (List.pairwise_iff_getElem.1 h.sorted) k (k + 1) (by omega) hk (by omega)
  have hgap : ∀ z, c < z → z < D[k + 1] → z ∣ p → ct b z = 0 := by
    refine gap_zero hb (fun z h1 h2 h3 => ?_)
    by_cases e : fp b c b z = 0
    · exact e
    · exfalso
      have hm := (h.mem z).2 ⟨by omega, h3, by omega⟩
      obtain ⟨j, hj, hjz⟩ := List.getElem_of_mem hm
      have hj1 : k < j := by
        by_cases hle : j ≤ k
        · by_cases hej : j = k
          · subst hej; omega
          · have := (List.pairwise_iff_getElem.1 h.sorted) j k hj (by omega) (by omega)
            omega
        · omega
      by_cases hej : j = k + 1
      · subst hej; omega
      · have := (List.pairwise_iff_getElem.1 h.sorted) (k + 1) j hk hj (by omega)
        omega
  have hf : ∀ y, y ∣ p → fp b c b y = fp b (D[k + 1]) 2 y := fun y hy => fp_next hb hlt hgap hy
  refine ⟨h.sorted, fun y => ?_, ?_⟩
  · rw [h.mem y]
    constructor
    · rintro ⟨a, b', c'⟩; exact ⟨a, b', by rw [← hf y b']; exact c'⟩
    · rintro ⟨a, b', c'⟩; exact ⟨a, b', by rw [hf y b']; exact c'⟩
  · rw [h.ways]
    apply List.map_congr_left
    intro y hy
    exact hf y ((h.mem y).1 hy).2.1

/-- Behind the last divisor all is told. -/
theorem Dv.last {b p c k : Nat} {D V : List Nat} (h : Dv b p c b D V) (hb : 2 ≤ b) (hp : 1 ≤ p) (hk : k + 1 = D.length) (hc : D[k]'(by omega) = c) : (if c = p then V.getD k 0 else 0) = ct b p := by
  by_cases e : c = p
  · rw [if_pos e]
    have hV : V.length = D.length := by rw [h.ways, List.length_map]
    rw [List.getD_eq_getElem?_getD, List.getElem?_eq_getElem (by omega), Option.getD_some]
    have : V[k]'(by omega) = fp b c b (D[k]'(by omega)) := by simp only [h.ways, List.getElem_map]
    rw [this, hc, e, fp_full hp (Nat.le_refl p)]
  · rw [if_neg e]
    have hcm : c ∈ D := by rw [← hc]; exact List.getElem_mem (by omega)
    have hcp := Nat.le_of_dvd (by omega) ((h.mem c).1 hcm).2.1
    have hgap := gap_zero (c := c) (c' := p + 1) (p := p) hb (fun z h1 h2 h3 => by
      by_cases e : fp b c b z = 0
      · exact e
      · exfalso
        have hm := (h.mem z).2 ⟨by omega, h3, by omega⟩
        obtain ⟨j, hj, hjz⟩ := List.getElem_of_mem hm
        by_cases hej : j = k
        · subst hej; omega
        · have := (List.pairwise_iff_getElem.1 h.sorted) j k hj (by omega) (by omega)
          omega)
    exact (hgap p (by omega) (by omega) (Nat.dvd_refl p)).symm

end Go.Proofs.Ytedpplonclonkaa
