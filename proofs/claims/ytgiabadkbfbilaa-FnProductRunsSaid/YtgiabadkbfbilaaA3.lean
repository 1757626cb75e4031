/-
  Joint text of VZ WZ VA (written by wip/tools/merge.py).
-/
import Derived.Test.YtgiabadkbfbilaaWS
import Derived.Test.YtgiabadkbfbilaaR2
import Derived.Test.YtgiabadkbfbilaaW2
/- from XVZ -/
namespace Go.Proofs.Ytgiabadkbfbilaa
open Go.RowKit
set_option linter.unusedVariables false
set_option linter.unusedSimpArgs false

/-- The share of y that is told behind the digit d of the divisor c. -/
def wpL (b c d y : Nat) : Nat → Nat → Nat
  | 0, _ => 0
  | k + 1, e => (if y % e = 0 ∧ (y / e < c ∨ (y / e = c ∧ e < d)) then ct b (y / e) else 0) + wpL b c d y k (e + 1)
def fp (b c d y : Nat) : Nat := if y = 1 then 1 else wpL b c d y (b - 2) 2

theorem wpL_full {b c d y : Nat} (hy : 1 ≤ y) (hc : y ≤ c) : ∀ (k e : Nat), 2 ≤ e → wpL b c d y k e = ctL (ct b) y k e
  | 0, e, _ => rfl
  | k + 1, e, he => by
    rw [wpL, ctL, wpL_full hy hc k (e + 1) (by omega)]
    by_cases hm : y % e = 0
    · have : y / e < y := Nat.div_lt_self (by omega) (by omega)
      rw [if_pos ⟨hm, .inl (by omega)⟩, if_pos hm]
    · rw [if_neg (fun h => hm h.1), if_neg hm]
theorem fp_full {b c d y : Nat} (hy : 1 ≤ y) (hc : y ≤ c) : fp b c d y = ct b y := by
  unfold fp
  by_cases h1 : y = 1
  · rw [if_pos h1, ct_one b y (by omega)]
  · rw [if_neg h1, ct_step b y (by omega), wpL_full hy hc _ _ (by omega)]

theorem mul_div_eq {y d c : Nat} (hd : 1 ≤ d) : (y % d = 0 ∧ y / d = c) ↔ y = c * d := by
  constructor
  · rintro ⟨h1, rfl⟩; exact (Nat.div_mul_cancel (Nat.dvd_of_mod_eq_zero h1)).symm
  · rintro rfl; exact ⟨Nat.mul_mod_left c d, Nat.mul_div_cancel c (by omega)⟩

theorem wpL_step {b c d y : Nat} (hd : 2 ≤ d) : ∀ (k e : Nat), 2 ≤ e → wpL b c (d + 1) y k e = wpL b c d y k e + (if e ≤ d ∧ d < e + k ∧ y = c * d then ct b c else 0)
  | 0, e, _ => by rw [wpL, wpL, if_neg (by omega)]
  | k + 1, e, he => by
    rw [wpL, wpL, wpL_step hd k (e + 1) (by omega)]
    by_cases hed : e = d
    · subst hed
      have hno : ¬ (e + 1 ≤ e ∧ e < e + 1 + k ∧ y = c * e) := by omega
      rw [if_neg hno]
      by_cases hy : y = c * e
      · obtain ⟨m1, m2⟩ := (mul_div_eq (show 1 ≤ e by omega)).2 hy
        rw [if_pos ⟨m1, .inr ⟨m2, by omega⟩⟩, if_neg (fun h => by rcases h.2 with h | h <;> omega), if_pos ⟨by omega, by omega, hy⟩, m2]
        omega
      · rw [if_neg (show ¬ (e ≤ e ∧ e < e + (k + 1) ∧ y = c * e) from fun h => hy h.2.2)]
        have : (y % e = 0 ∧ (y / e < c ∨ (y / e = c ∧ e < e + 1))) ↔ (y % e = 0 ∧ (y / e < c ∨ (y / e = c ∧ e < e))) := by
          constructor
          · rintro ⟨h1, h2 | h2⟩
            · exact ⟨h1, .inl h2⟩
            · exact absurd ((mul_div_eq (show 1 ≤ e by omega)).1 ⟨h1, h2.1⟩) hy
          · rintro ⟨h1, h2 | h2⟩
            · exact ⟨h1, .inl h2⟩
            · omega
        by_cases hc : y % e = 0 ∧ (y / e < c ∨ (y / e = c ∧ e < e + 1))
        · rw [if_pos hc, if_pos (this.1 hc)]; omega
        · rw [if_neg hc, if_neg (fun h => hc (this.2 h))]; omega
    · have hiff : (y % e = 0 ∧ (y / e < c ∨ (y / e = c ∧ e < d + 1))) ↔ (y % e = 0 ∧ (y / e < c ∨ (y / e = c ∧ e < d))) := by
        constructor
        · rintro ⟨h1, h2 | h2⟩
          · exact ⟨h1, .inl h2⟩
          · exact ⟨h1, .inr ⟨h2.1, by omega⟩⟩
        · rintro ⟨h1, h2 | h2⟩
          · exact ⟨h1, .inl h2⟩
          · exact ⟨h1, .inr ⟨h2.1, by omega⟩⟩
      have hiff2 : (e + 1 ≤ d ∧ d < e + 1 + k ∧ y = c * d) ↔ (e ≤ d ∧ d < e + (k + 1) ∧ y = c * d) := by
        constructor
        · rintro ⟨h1, h2, h3⟩; exact ⟨by omega, by omega, h3⟩
        · rintro ⟨h1, h2, h3⟩; exact ⟨by omega, by omega, h3⟩
      by_cases hc : y % e = 0 ∧ (y / e < c ∨ (y / e = c ∧ e < d + 1))
      · rw [if_pos hc, if_pos (hiff.1 hc)]
        by_cases h2 : e + 1 ≤ d ∧ d < e + 1 + k ∧ y = c * d
        · rw [if_pos h2, if_pos (hiff2.1 h2)]; omega
        · rw [if_neg h2, if_neg (fun h => h2 (hiff2.2 h))]; omega
      · rw [if_neg hc, if_neg (fun h => hc (hiff.2 h))]
        by_cases h2 : e + 1 ≤ d ∧ d < e + 1 + k ∧ y = c * d
        · rw [if_pos h2, if_pos (hiff2.1 h2)]; omega
        · rw [if_neg h2, if_neg (fun h => h2 (hiff2.2 h))]; omega

/-- One digit more of the divisor c. -/
theorem fp_step {b c d y : Nat} (hd : 2 ≤ d) (hdb : d < b) (hc : 1 ≤ c) : fp b c (d + 1) y = fp b c d y + (if y = c * d then ct b c else 0) := by
  unfold fp
  by_cases h1 : y = 1
  · have : ¬ y = c * d := by
      intro h
      have : 1 * 2 ≤ c * d := Nat.mul_le_mul hc hd
      omega
    rw [if_pos h1, if_pos h1, if_neg this]
  · rw [if_neg h1, if_neg h1, wpL_step hd _ _ (Nat.le_refl 2)]
    by_cases hy : y = c * d
    · rw [if_pos ⟨by omega, by omega, hy⟩, if_pos hy]
    · rw [if_neg (fun h => hy h.2.2), if_neg hy]

/-- From a divisor to the next one. -/
theorem wpL_next {b c c' p y : Nat} (hcc : c < c') (hgap : ∀ z, c < z → z < c' → z ∣ p → ct b z = 0) (hy : y ∣ p) : ∀ (k e : Nat), 2 ≤ e → e + k ≤ b → wpL b c b y k e = wpL b c' 2 y k e
  | 0, e, _, _ => rfl
  | k + 1, e, he, hk => by
    rw [wpL, wpL, wpL_next hcc hgap hy k (e + 1) (by omega) (by omega)]
    congr 1
    by_cases hm : y % e = 0
    · have hdv : y / e ∣ p := Nat.dvd_trans (Nat.div_dvd_of_dvd (Nat.dvd_of_mod_eq_zero hm)) hy
      by_cases h1 : y / e ≤ c
      · rw [if_pos ⟨hm, by omega⟩, if_pos ⟨hm, .inl (by omega)⟩]
      · rw [if_neg (fun h => by rcases h.2 with h | h <;> omega)]
        by_cases h2 : y / e < c'
        · rw [if_pos ⟨hm, .inl h2⟩, hgap _ (by omega) h2 hdv]
        · rw [if_neg (fun h => by rcases h.2 with h | h <;> omega)]
    · rw [if_neg (fun h => hm h.1), if_neg (fun h => hm h.1)]
theorem fp_next {b c c' p y : Nat} (hb : 2 ≤ b) (hcc : c < c') (hgap : ∀ z, c < z → z < c' → z ∣ p → ct b z = 0) (hy : y ∣ p) : fp b c b y = fp b c' 2 y := by
  unfold fp
  by_cases h1 : y = 1
  · rw [if_pos h1, if_pos h1]
  · rw [if_neg h1, if_neg h1, wpL_next hcc hgap hy _ _ (by omega) (by omega)]

/-- What is told of a divisor with nothing between. -/
theorem wpL_all {b c p y : Nat} (hgap : ∀ z, c < z → z < y → z ∣ p → ct b z = 0) (hy : y ∣ p) (hy1 : 1 ≤ y) : ∀ (k e : Nat), 2 ≤ e → e + k ≤ b → ctL (ct b) y k e = wpL b c b y k e
  | 0, e, _, _ => rfl
  | k + 1, e, he, hk => by
    rw [wpL, ctL, wpL_all hgap hy hy1 k (e + 1) (by omega) (by omega)]
    congr 1
    by_cases hm : y % e = 0
    · have hdv : y / e ∣ p := Nat.dvd_trans (Nat.div_dvd_of_dvd (Nat.dvd_of_mod_eq_zero hm)) hy
      have hlt : y / e < y := Nat.div_lt_self (by omega) (by omega)
      rw [if_pos hm]
      by_cases h1 : y / e ≤ c
      · rw [if_pos ⟨hm, by omega⟩]
      · rw [if_neg (fun h => by rcases h.2 with h | h <;> omega), hgap _ (by omega) hlt hdv]
    · rw [if_neg hm, if_neg (fun h => hm h.1)]

/-- No product of digits lies among the divisors where none is told. -/
theorem gap_zero {b c c' p : Nat} (hb : 2 ≤ b) (hno : ∀ z, c < z → z < c' → z ∣ p → fp b c b z = 0) : ∀ z, c < z → z < c' → z ∣ p → ct b z = 0 := by
  intro z
  induction z using Nat.strongRecOn with
  | ind z ih =>
    intro h1 h2 hz
    have hf := hno z h1 h2 hz
    unfold fp at hf
    by_cases hz1 : z = 1
    · rw [if_pos hz1] at hf; omega
    · rw [if_neg hz1] at hf
      by_cases hz0 : z = 0
      · omega
      · rw [ct_step b z (by omega), wpL_all (c := c) (p := p) (fun y hy1 hy2 hyp => ih y hy2 hy1 (by omega) hyp) hz (by omega) _ _ (by omega) (by omega)]
        exact hf

/-- The beginning: only 1 is told. -/
theorem wpL_first {b y : Nat} (hy : 1 ≤ y) : ∀ (k e : Nat), 2 ≤ e → wpL b 1 2 y k e = 0
  | 0, e, _ => rfl
  | k + 1, e, he => by
    rw [wpL, wpL_first hy k (e + 1) (by omega), if_neg]
    rintro ⟨h1, h2 | h2⟩
    · have := Nat.div_mul_cancel (Nat.dvd_of_mod_eq_zero h1)
      have h0 : y / e = 0 := Nat.lt_one_iff.1 h2
      rw [h0] at this; omega
    · omega
theorem fp_first {b y : Nat} (hy : 1 ≤ y) : fp b 1 2 y = if y = 1 then 1 else 0 := by
  unfold fp
  rw [wpL_first hy _ _ (by omega)]

/-- What the model keeps: the divisors told so far, in order, and in how many ways. -/
structure Dv (b p c d : Nat) (D V : List Nat) : Prop where
  sorted : D.Pairwise (· < ·)
  mem : ∀ y, y ∈ D ↔ (1 ≤ y ∧ y ∣ p ∧ 1 ≤ fp b c d y)
  ways : V = D.map (fp b c d)

theorem Dv.start {b p : Nat} (hp : 1 ≤ p) : Dv b p 1 2 [1] [1] := by
  refine ⟨by simp, fun y => ?_, by simp [fp_first]⟩
  constructor
  · intro h
    simp at h; subst h
    exact ⟨Nat.le_refl _, Nat.one_dvd _, by rw [fp_first (Nat.le_refl _)]; simp⟩
  · rintro ⟨h1, _, h3⟩
    rw [fp_first h1] at h3
    by_cases e : y = 1
    · simp [e]
    · rw [if_neg e] at h3; omega

/-- A digit that leads to no divisor. -/
theorem Dv.skip {b p c d : Nat} {D V : List Nat} (h : Dv b p c d D V) (hd : 2 ≤ d) (hdb : d < b) (hc : 1 ≤ c) (hno : ¬ c * d ∣ p) : Dv b p c (d + 1) D V := by
  have hf : ∀ y, y ∣ p → fp b c (d + 1) y = fp b c d y := fun y hy => by
    rw [fp_step hd hdb hc, if_neg (fun e => hno (by rw [← e]; exact hy))]; omega
  refine ⟨h.sorted, fun y => ?_, ?_⟩
  · rw [h.mem y]
    constructor
    · rintro ⟨a, b', c'⟩; exact ⟨a, b', by rw [hf y b']; exact c'⟩
    · rintro ⟨a, b', c'⟩; exact ⟨a, b', by rw [← hf y b']; exact c'⟩
  · rw [h.ways]
    apply List.map_congr_left
    intro y hy
    exact (hf y ((h.mem y).1 hy).2.1).symm

theorem Dv.ct_c {b p c d : Nat} {D V : List Nat} (h : Dv b p c d D V) (hc : c ∈ D) : 1 ≤ c ∧ c ∣ p ∧ 1 ≤ ct b c := by
  obtain ⟨h1, h2, h3⟩ := (h.mem c).1 hc
  exact ⟨h1, h2, by rwa [fp_full h1 (Nat.le_refl c)] at h3⟩

theorem Dv.nodup {b p c d : Nat} {D V : List Nat} (h : Dv b p c d D V) : D.Nodup := h.sorted.imp (fun hlt => Nat.ne_of_lt hlt)

/-- A divisor that is there already. -/
theorem Dv.hit {b p c d i : Nat} {D V : List Nat} (h : Dv b p c d D V) (hd : 2 ≤ d) (hdb : d < b) (hc : c ∈ D) (hi : i < D.length) (he : D[i] = c * d) : Dv b p c (d + 1) D (V.set i (V.getD i 0 + ct b c)) := by
  have hc1 := (h.ct_c hc).1
  have hf : ∀ y, fp b c (d + 1) y = fp b c d y + (if y = c * d then ct b c else 0) := fun y => fp_step hd hdb hc1
  have hy0 : c * d ∈ D := by rw [← he]; exact List.getElem_mem hi
  refine ⟨h.sorted, fun y => ?_, ?_⟩
  · rw [h.mem y]
    constructor
    · rintro ⟨a, b', c'⟩; exact ⟨a, b', by rw [hf]; omega⟩
    · rintro ⟨a, b', c'⟩
      refine ⟨a, b', ?_⟩
      rw [hf] at c'
      by_cases e : y = c * d
      · rw [e]; exact ((h.mem _).1 hy0).2.2
      · rw [if_neg e] at c'; omega
  · apply List.ext_getElem
    · rw [List.length_set, h.ways, List.length_map, List.length_map]
    · intro j h1 h2
      rw [List.length_map] at h2
      have hV : V.length = D.length := by rw [h.ways, List.length_map]
      rw [List.getElem_set, List.getElem_map, hf]
      have hvj : ∀ (k : Nat) (hk : k < D.length), V[k]'(by omega) = fp b c d D[k] := fun k hk => by simp only [h.ways, List.getElem_map]
      by_cases e : i = j
      · subst e
        rw [if_pos rfl, if_pos he, List.getD_eq_getElem?_getD, List.getElem?_eq_getElem (by omega), Option.getD_some, hvj i hi]
      · have hne : D[j] ≠ c * d := fun hj => by
          rcases Nat.lt_trichotomy i j with hl | hl | hl
          · have := (List.pairwise_iff_getElem.1 h.sorted) i j (by omega) (by omega) hl
            omega
          · exact e (by omega)
          · have := (List.pairwise_iff_getElem.1 h.sorted) j i (by omega) (by omega) hl
            omega
        rw [if_neg e, if_neg hne, hvj j h2]; omega

/-- A new divisor. -/
theorem Dv.ins {b p c d t : Nat} {D V : List Nat} (h : Dv b p c d D V) (hd : 2 ≤ d) (hdb : d < b) (hc : c ∈ D) (hp : c * d ∣ p) (ht : t ≤ D.length) (h1 : ∀ y ∈ D.take t, y < c * d) (h2 : ∀ y ∈ D.drop t, c * d < y) :
    Dv b p c (d + 1) (D.take t ++ [c * d] ++ D.drop t) (V.take t ++ [ct b c] ++ V.drop t) := by
  obtain ⟨hc1, hc2, hc3⟩ := h.ct_c hc
  have hf : ∀ y, fp b c (d + 1) y = fp b c d y + (if y = c * d then ct b c else 0) := fun y => fp_step hd hdb hc1
  have hno : c * d ∉ D := by
    intro hm
    rw [← List.take_append_drop t D, List.mem_append] at hm
    rcases hm with hm | hm
    · exact Nat.lt_irrefl _ (h1 _ hm)
    · exact Nat.lt_irrefl _ (h2 _ hm)
  have hy1 : 1 ≤ c * d := Nat.mul_le_mul hc1 (by omega : 1 ≤ d)
  have hz : fp b c d (c * d) = 0 := by
    by_cases e : fp b c d (c * d) = 0
    · exact e
    · exact absurd ((h.mem _).2 ⟨hy1, hp, by omega⟩) hno
  have hS : (D.take t ++ D.drop t).Pairwise (· < ·) := by rw [List.take_append_drop]; exact h.sorted
  rw [List.pairwise_append] at hS
  refine ⟨?_, fun y => ?_, ?_⟩
  · rw [List.append_assoc, List.singleton_append, List.pairwise_append, List.pairwise_cons]
    refine ⟨hS.1, ⟨h2, hS.2.1⟩, fun a ha b' hb' => ?_⟩
    rcases List.mem_cons.1 hb' with rfl | hb'
    · exact h1 a ha
    · exact hS.2.2 a ha b' hb'
  · have hmem : y ∈ D.take t ++ [c * d] ++ D.drop t ↔ (y = c * d ∨ y ∈ D) := by
      rw [List.mem_append, List.mem_append, List.mem_singleton]
      constructor
      · rintro ((hm | hm) | hm)
        · exact .inr (List.mem_of_mem_take hm)
        · exact .inl hm
        · exact .inr (List.mem_of_mem_drop hm)
      · rintro (hm | hm)
        · exact .inl (.inr hm)
        · rw [← List.take_append_drop t D, List.mem_append] at hm
          rcases hm with hm | hm
          · exact .inl (.inl hm)
          · exact .inr hm
    rw [hmem]
    constructor
    · rintro (rfl | hm)
      · exact ⟨hy1, hp, by rw [hf, if_pos rfl]; omega⟩
      · obtain ⟨a, b', c'⟩ := (h.mem y).1 hm
        exact ⟨a, b', by rw [hf]; omega⟩
    · rintro ⟨a, b', c'⟩
      by_cases e : y = c * d
      · exact .inl e
      · rw [hf, if_neg e] at c'
        exact .inr ((h.mem y).2 ⟨a, b', by omega⟩)
  · rw [List.map_append, List.map_append, h.ways, ← List.map_take, ← List.map_drop]
    have e1 : (D.take t).map (fp b c d) = (D.take t).map (fp b c (d + 1)) := List.map_congr_left (fun y hy => by rw [hf, if_neg (Nat.ne_of_lt (h1 y hy))]; omega)
    have e2 : (D.drop t).map (fp b c d) = (D.drop t).map (fp b c (d + 1)) := List.map_congr_left (fun y hy => by rw [hf, if_neg (Nat.ne_of_gt (h2 y hy))]; omega)
    rw [e1, e2, List.map_singleton, hf, if_pos rfl, hz, Nat.zero_add]

/-- On to the next divisor. -/
theorem Dv.next {b p c k : Nat} {D V : List Nat} (h : Dv b p c b D V) (hb : 2 ≤ b) (hk : k + 1 < D.length) (hc : D[k]'(by omega) = c) : Dv b p (D[k + 1]) 2 D V := by
  have hlt : c < D[k + 1] := by rw [← hc]; exact (List.pairwise_iff_getElem.1 h.sorted) k (k + 1) (by omega) hk (by omega)
  have hgap : ∀ z, c < z → z < D[k + 1] → z ∣ p → ct b z = 0 := by
    refine gap_zero hb (fun z h1 h2 h3 => ?_)
    by_cases e : fp b c b z = 0
    · exact e
    · exfalso
      have hm := (h.mem z).2 ⟨by omega, h3, by omega⟩
      obtain ⟨j, hj, hjz⟩ := List.getElem_of_mem hm
      have hj1 : k < j := by
        by_cases hle : j ≤ k
        · by_cases hej : j = k
          · subst hej; omega
          · have := (List.pairwise_iff_getElem.1 h.sorted) j k hj (by omega) (by omega)
            omega
        · omega
      by_cases hej : j = k + 1
      · subst hej; omega
      · have := (List.pairwise_iff_getElem.1 h.sorted) (k + 1) j hk hj (by omega)
        omega
  have hf : ∀ y, y ∣ p → fp b c b y = fp b (D[k + 1]) 2 y := fun y hy => fp_next hb hlt hgap hy
  refine ⟨h.sorted, fun y => ?_, ?_⟩
  · rw [h.mem y]
    constructor
    · rintro ⟨a, b', c'⟩; exact ⟨a, b', by rw [← hf y b']; exact c'⟩
    · rintro ⟨a, b', c'⟩; exact ⟨a, b', by rw [hf y b']; exact c'⟩
  · rw [h.ways]
    apply List.map_congr_left
    intro y hy
    exact hf y ((h.mem y).1 hy).2.1

/-- Behind the last divisor all is told. -/
theorem Dv.last {b p c k : Nat} {D V : List Nat} (h : Dv b p c b D V) (hb : 2 ≤ b) (hp : 1 ≤ p) (hk : k + 1 = D.length) (hc : D[k]'(by omega) = c) : (if c = p then V.getD k 0 else 0) = ct b p := by
  by_cases e : c = p
  · rw [if_pos e]
    have hV : V.length = D.length := by rw [h.ways, List.length_map]
    rw [List.getD_eq_getElem?_getD, List.getElem?_eq_getElem (by omega), Option.getD_some]
    have : V[k]'(by omega) = fp b c b (D[k]'(by omega)) := by simp only [h.ways, List.getElem_map]
    rw [this, hc, e, fp_full hp (Nat.le_refl p)]
  · rw [if_neg e]
    have hcm : c ∈ D := by rw [← hc]; exact List.getElem_mem (by omega)
    have hcp := Nat.le_of_dvd (by omega) ((h.mem c).1 hcm).2.1
    have hgap := gap_zero (c := c) (c' := p + 1) (p := p) hb (fun z h1 h2 h3 => by
      by_cases e : fp b c b z = 0
      · exact e
      · exfalso
        have hm := (h.mem z).2 ⟨by omega, h3, by omega⟩
        obtain ⟨j, hj, hjz⟩ := List.getElem_of_mem hm
        by_cases hej : j = k
        · subst hej; omega
        · have := (List.pairwise_iff_getElem.1 h.sorted) j k hj (by omega) (by omega)
          omega)
    exact (hgap p (by omega) (by omega) (Nat.dvd_refl p)).symm

end Go.Proofs.Ytgiabadkbfbilaa

/- from XWZ -/
namespace Go.Proofs.Ytgiabadkbfbilaa
open Go.RowKit
set_option linter.unusedVariables false
set_option linter.unusedSimpArgs false

/-- Divisors that rise are few. -/
theorem len_div {p : Nat} (hp : 1 ≤ p) : ∀ (D : List Nat) (y : Nat), (y :: D).Pairwise (· < ·) → (∀ z ∈ y :: D, 1 ≤ z ∧ z ∣ p) → (y :: D).length ≤ p / y
  | [], y, _, h => by
    obtain ⟨h1, h2⟩ := h y (by simp)
    exact Nat.div_pos (Nat.le_of_dvd (by omega) h2) (by omega)
  | z :: D, y, hs, h => by
    have ih := len_div hp D z (List.pairwise_cons.1 hs).2 (fun x hx => h x (List.mem_cons_of_mem _ hx))
    obtain ⟨h1, h2⟩ := h y (by simp)
    obtain ⟨h3, h4⟩ := h z (by simp)
    have hyz : y < z := (List.pairwise_cons.1 hs).1 z (by simp)
    have e1 := Nat.div_mul_cancel h2
    have e2 := Nat.div_mul_cancel h4
    have : p / z < p / y := by
      by_cases hle : p / y ≤ p / z
      · exfalso
        have hpos : 1 ≤ p / z := Nat.div_pos (Nat.le_of_dvd (by omega) h4) (by omega)
        have a1 : p / y * y ≤ p / z * y := Nat.mul_le_mul_right _ hle
        have a2 : p / z * y < p / z * z := Nat.mul_lt_mul_of_pos_left hyz (by omega)
        omega
      · omega
    rw [List.length_cons]
    omega
theorem len_few {p : Nat} (hp : 1 ≤ p) (hp' : p ≤ 1000000000000) : ∀ (D : List Nat) (lo : Nat), D.Pairwise (· < ·) → (∀ z ∈ D, lo < z ∧ z ∣ p) → D.length ≤ (1000000 - lo) + 1000000
  | [], lo, _, _ => Nat.zero_le _
  | y :: D, lo, hs, h => by
    obtain ⟨h1, h2⟩ := h y (by simp)
    by_cases hy : y ≤ 1000000
    · have ih := len_few hp hp' D y (List.pairwise_cons.1 hs).2 (fun x hx => ⟨(List.pairwise_cons.1 hs).1 x hx, (h x (List.mem_cons_of_mem _ hx)).2⟩)
      rw [List.length_cons]; omega
    · have h3 := len_div hp D y hs (fun z hz => ⟨by have := (h z hz).1; omega, (h z hz).2⟩)
      have : p / y ≤ 1000000 := Nat.div_le_of_le_mul (by have : 1000000 * 1000000 ≤ y * 1000000 := Nat.mul_le_mul_right _ (by omega); omega)
      omega

theorem wpL_le (b c d y : Nat) : ∀ k e, wpL b c d y k e ≤ ctL (ct b) y k e
  | 0, e => Nat.le_refl _
  | k + 1, e => by
    have ih := wpL_le b c d y k (e + 1)
    rw [wpL, ctL]
    by_cases hm : y % e = 0
    · rw [if_pos hm]; split <;> omega
    · rw [if_neg hm, if_neg (fun h => hm h.1)]; omega
theorem fp_le {b c d y : Nat} (hy : 1 ≤ y) : fp b c d y ≤ ct b y := by
  unfold fp
  by_cases h1 : y = 1
  · rw [if_pos h1, ct_one b y (by omega)]; exact Nat.le_refl _
  · rw [if_neg h1, ct_step b y (by omega)]; exact wpL_le b c d y _ _

/-- What stands while the digits of a divisor are asked. -/
structure In (b p c k d n : Nat) (D V : List Nat) : Prop where
  dv : Dv b p c d D V
  len : D.length = n
  kn : k < n
  at' : D.getD k 0 = c

theorem getD_at {D : List Nat} {j : Nat} (h : j < D.length) : D.getD j 0 = D[j] := by
  rw [List.getD_eq_getElem?_getD, List.getElem?_eq_getElem h, Option.getD_some]

theorem In.mem {b p c k d n : Nat} {D V : List Nat} (h : In b p c k d n D V) : c ∈ D := by
  have hk : k < D.length := by rw [h.len]; exact h.kn
  rw [← h.at', getD_at hk]; exact List.getElem_mem hk
theorem In.vlen {b p c k d n : Nat} {D V : List Nat} (h : In b p c k d n D V) : V.length = n := by rw [h.dv.ways, List.length_map, h.len]
theorem In.v {b p c k d n : Nat} {D V : List Nat} (h : In b p c k d n D V) (j : Nat) (hj : j < n) : V.getD j 0 = fp b c d (D.getD j 0) := by
  have h1 : j < D.length := by rw [h.len]; exact hj
  have h2 : j < V.length := by rw [h.vlen]; exact hj
  rw [getD_at h1, getD_at h2]
  simp only [h.dv.ways, List.getElem_map]
theorem In.vk {b p c k d n : Nat} {D V : List Nat} (h : In b p c k d n D V) : V.getD k 0 = ct b c := by
  rw [h.v k h.kn, h.at', fp_full (h.dv.ct_c h.mem).1 (Nat.le_refl _)]
theorem In.few {b p c k d n : Nat} {D V : List Nat} (h : In b p c k d n D V) (hp : 1 ≤ p) (hp' : p ≤ 1000000000000) : n ≤ 2000000 := by
  have := len_few hp hp' D 0 h.dv.sorted (fun z hz => ⟨((h.dv.mem z).1 hz).1, ((h.dv.mem z).1 hz).2.1⟩)
  rw [h.len] at this; omega
theorem In.d_bd {b p c k d n : Nat} {D V : List Nat} (h : In b p c k d n D V) (hp : 1 ≤ p) (j : Nat) (hj : j < n) : 1 ≤ D.getD j 0 ∧ D.getD j 0 ≤ p := by
  have h1 : j < D.length := by rw [h.len]; exact hj
  rw [getD_at h1]
  obtain ⟨a, b', _⟩ := (h.dv.mem _).1 (List.getElem_mem h1)
  exact ⟨a, Nat.le_of_dvd (by omega) b'⟩
theorem In.v_bd {b p c k d n : Nat} {D V : List Nat} (h : In b p c k d n D V) (hp : 1 ≤ p) (hp' : p ≤ 1000000000000) (hb' : b ≤ 16) (j : Nat) (hj : j < n) : V.getD j 0 < 9223372036854775808 := by
  rw [h.v j hj]
  obtain ⟨h1, h2⟩ := h.d_bd hp j hj
  exact Nat.lt_of_le_of_lt (fp_le h1) (ct_lt b _ hb' h1 (by omega))
theorem In.low {b p c k d n : Nat} {D V : List Nat} (h : In b p c k d n D V) (hd : 2 ≤ d) : ∀ j, j < k + 1 → D.getD j 0 < c * d := by
  intro j hj
  have hk : k < D.length := by rw [h.len]; exact h.kn
  have hc1 := (h.dv.ct_c h.mem).1
  have hcd : c < c * d := by have := Nat.mul_le_mul_left c hd; omega
  have hle : D.getD j 0 ≤ c := by
    rw [← h.at', getD_at hk, getD_at (by omega)]
    by_cases e : j = k
    · subst e; exact Nat.le_refl _
    · exact Nat.le_of_lt ((List.pairwise_iff_getElem.1 h.dv.sorted) j k (by omega) hk (by omega))
  omega
theorem In.skip {b p c k d n : Nat} {D V : List Nat} (h : In b p c k d n D V) (hd : 2 ≤ d) (hdb : d < b) (hno : ¬ p % (c * d) = 0) : In b p c k (d + 1) n D V :=
  ⟨h.dv.skip hd hdb (h.dv.ct_c h.mem).1 (fun hx => hno (Nat.mod_eq_zero_of_dvd hx)), h.len, h.kn, h.at'⟩
theorem In.hit {b p c k d n t : Nat} {D V : List Nat} (h : In b p c k d n D V) (hd : 2 ≤ d) (hdb : d < b) (ht : t < n) (he : D.getD t 0 = c * d) : In b p c k (d + 1) n D (V.set t (V.getD t 0 + V.getD k 0)) := by
  have h1 : t < D.length := by rw [h.len]; exact ht
  refine ⟨?_, h.len, h.kn, h.at'⟩
  rw [h.vk]
  exact h.dv.hit hd hdb h.mem h1 (by rw [← he, getD_at h1])
theorem In.ins {b p c k d n t : Nat} {D V : List Nat} (h : In b p c k d n D V) (hd : 2 ≤ d) (hdb : d < b) (hm : p % (c * d) = 0) (hkt : k + 1 ≤ t) (ht : t ≤ n) (hlow : ∀ j, j < t → D.getD j 0 < c * d) (hhigh : t < n → c * d < D.getD t 0) :
    In b p c k (d + 1) (n + 1) (D.take t ++ [c * d] ++ D.drop t) (V.take t ++ [V.getD k 0] ++ V.drop t) := by
  have hl := h.len
  refine ⟨?_, ?_, by have := h.kn; omega, ?_⟩
  · rw [h.vk]
    refine h.dv.ins hd hdb h.mem (Nat.dvd_of_mod_eq_zero hm) (by omega) ?_ ?_
    · intro y hy
      obtain ⟨j, hj, rfl⟩ := List.getElem_of_mem hy
      have hj' : j < t ∧ j < D.length := by simp at hj; omega
      rw [List.getElem_take, ← getD_at hj'.2]
      exact hlow j hj'.1
    · intro y hy
      obtain ⟨j, hj, rfl⟩ := List.getElem_of_mem hy
      have hj' : j < D.length - t := by simpa using hj
      have htn : t < n := by omega
      have h3 := hhigh htn
      rw [getD_at (by omega)] at h3
      rw [List.getElem_drop]
      by_cases e : j = 0
      · subst e; simpa using h3
      · have := (List.pairwise_iff_getElem.1 h.dv.sorted) t (t + j) (by omega) (by omega) (by omega)
        omega
  · simp; omega
  · have hk : k < D.length := by have := h.kn; omega
    rw [← h.at', List.getD_eq_getElem?_getD, List.getD_eq_getElem?_getD, List.append_assoc, List.getElem?_append_left (by simp; omega), List.getElem?_take_of_lt (by omega)]

/-- What stands between two divisors. -/
def Ot (b p k n : Nat) (D V : List Nat) : Prop :=
  (k < n ∧ In b p (D.getD k 0) k 2 n D V) ∨ (k = n ∧ 1 ≤ n ∧ n ≤ 2000000 ∧ D.length = n ∧ V.length = n ∧ D.getD (n - 1) 0 ≤ p ∧ V.getD (n - 1) 0 < 9223372036854775808 ∧ (if D.getD (n - 1) 0 = p then V.getD (n - 1) 0 else 0) = ct b p)

theorem Ot.start {b p : Nat} (hp : 1 ≤ p) : Ot b p 0 1 [1] [1] := .inl ⟨by omega, ⟨Dv.start hp, rfl, by omega, rfl⟩⟩
theorem Ot.next {b p c k n : Nat} {D V : List Nat} (h : In b p c k b n D V) (hb : 2 ≤ b) (hb' : b ≤ 16) (hp : 1 ≤ p) (hp' : p ≤ 1000000000000) : Ot b p (k + 1) n D V := by
  have hl := h.len
  have hkn := h.kn
  have hk : k < D.length := by omega
  by_cases e : k + 1 < n
  · refine .inl ⟨e, ⟨?_, hl, e, rfl⟩⟩
    rw [getD_at (by omega)]
    exact h.dv.next hb (by omega) (by rw [← h.at', getD_at hk])
  · have hn : n = k + 1 := by omega
    refine .inr ⟨by omega, by omega, h.few hp hp', hl, h.vlen, ?_, ?_, ?_⟩
    · exact (h.d_bd hp (n - 1) (by omega)).2
    · exact h.v_bd hp hp' hb' (n - 1) (by omega)
    · rw [hn, Nat.add_sub_cancel, h.at']
      exact h.dv.last hb hp (by omega) (by rw [← h.at', getD_at hk])

end Go.Proofs.Ytgiabadkbfbilaa

/- from XVA -/
namespace Go.Proofs.Ytgiabadkbfbilaa
open Go.RowKit
set_option linter.unusedVariables false
set_option linter.unusedSimpArgs false
set_option maxRecDepth 100000

/-- A source of an append. -/
def SrcV (w : World) (u : Value) (ys : List Int) : Prop := (u = .slice none 0 0 ∧ ys = []) ∨ ∃ ad c, u = .slice (some ad) ys.length c ∧ ∀ j (h : j < ys.length), w.cell? (ad.add j) = some (.int .i64 ys[j])

theorem wpList_appV {w : World} {ops : Array Oper} {rest : List Oper} {o : Oper} {a : Act} {Q : Exit → Act → World → Prop} (hgd : o.guard = none) (s x : Operand)
    (ho : o.op = .call { callee := .builtin .append, args := #[s, x], argTypes := #[24, 24] })
    (B : Nat) (v u : Value) (xs ys : List Int) (hs : a.eval s = v) (hx : a.eval x = u) (hv : Rd w B v xs) (hu : SrcV w u ys)
    (hlen : xs.length + ys.length ≤ 17179869184) (hB : B ≤ w.heap.size)
    (h : ∀ v' w', Rd w' B v' (xs ++ ys) → w.grownBy w' v.ownBlock → Below B w w' → wpList Try.prog ops Q rest (a.put o.dst v') w') : wpList Try.prog ops Q (o :: rest) a w := by
  obtain ⟨i0, hi, hz0, hz1, hz2⟩ := info_parts info3
  have hbel : ∀ w', w.grownBy w' v.ownBlock → Below B w w' := fun w' hg => (Below.refl _ _).grown hg hB (fun k hk => (hv.lt k hk).1)
  rcases hu with ⟨rfl, rfl⟩ | ⟨ad, cap, rfl, hc⟩
  · refine wpList_append_own_none hgd s x 24 ho B 3 i0 1 Try.underlying24 hi v xs.length _ hs hv hx ?_
    exact h v w (by simpa using hv) (World.grownBy.refl _ _) (Below.refl _ _)
  · refine wpList_append_own w hgd s x 24 ho B 3 i0 (.int .i64 0) 1 8 Try.underlying24 hi hz0 hz1 hz2 rfl (by decide) v xs.length _ hs hv ad ys.length cap (ys.map (Value.int .i64)) hx (by simp) ?_ (ints_oneCell _ _) (by unfold maxLen; omega) (by omega) hB ?_
    · intro j q hj
      have hj' : j < ys.length := by
        have := (List.getElem?_eq_some_iff.1 hj).1
        simpa using this
      rw [hc j hj', ← hj]
      simp [hj']
    · intro v' w' h2 h3 _
      refine h v' w' ?_ h3 (hbel w' h3)
      unfold Rd
      rw [List.length_append, List.map_append]
      exact h2

theorem addr_addV (g o j : Nat) : (⟨g, o, none⟩ : Addr).add j = ⟨g, o + j, none⟩ := by
  unfold Addr.add
  split <;> simp_all

theorem srcV_drop {w : World} {B g n cap : Nat} {xs : List Int} (h : Rd w B (.slice (some ⟨g, 0, none⟩) n cap) xs) (q c : Nat) (o m : Nat) (hq : q ≤ xs.length) (ho : q < xs.length → o = q) (hm : m = xs.length - q) :
    SrcV w (.slice (some ⟨g, o, none⟩) m c) (xs.drop q) := by
  refine .inr ⟨⟨g, o, none⟩, c, by rw [List.length_drop, hm], fun j hj => ?_⟩
  have hj' : j < xs.length - q := by simpa using hj
  obtain rfl := ho (by omega)
  rw [addr_addV, h.at.2.2.2.2.1 (o + j) (by omega)]
  simp
theorem srcV_take {w : World} {B g n cap : Nat} {xs : List Int} (h : Rd w B (.slice (some ⟨g, 0, none⟩) n cap) xs) (q c : Nat) (hq : q ≤ xs.length) : SrcV w (.slice (some ⟨g, 0, none⟩) q c) (xs.take q) := by
  refine .inr ⟨⟨g, 0, none⟩, c, by rw [List.length_take, Nat.min_eq_left hq], fun j hj => ?_⟩
  have hj' : j < q := by rw [List.length_take] at hj; omega
  rw [addr_addV, Nat.zero_add, h.at.2.2.2.2.1 j (by omega)]
  simp

theorem rd_emptyV (w : World) : Rd (w.alloc (.cells #[] 3)) w.heap.size (.slice (some ⟨w.heap.size, 0, none⟩) 0 0) [] := by
  have := World.ownsRow_lit (e := 3) (size := 1) (base := w.heap.size) w #[] 0 (Nat.le_refl _) (by unfold maxLen; omega) rfl
  exact this

/-- A number laid into an increasing list. -/
theorem putv_rise (xs : List Int) (x : Int) (k : Nat) (hk : k ≤ xs.length) (hs : xs.Pairwise (· < ·)) (h1 : ∀ j (hj : j < xs.length), j < k → xs[j] < x) (h2 : ∀ (h : k < xs.length), x < xs[k]) :
    (xs.take k ++ [x] ++ xs.drop k).Pairwise (· < ·) ∧ ∀ z, z ∈ xs.take k ++ [x] ++ xs.drop k ↔ z ∈ xs ∨ z = x := by
  have hs' : (xs.take k ++ xs.drop k).Pairwise (· < ·) := by rw [List.take_append_drop]; exact hs
  rw [List.pairwise_append] at hs'
  obtain ⟨ha, hb, hc⟩ := hs'
  have hx : ∀ a ∈ xs.take k, a < x := by
    intro a ha
    obtain ⟨j, hj, rfl⟩ := List.getElem_of_mem ha
    have hj' : j < k ∧ j < xs.length := by simp at hj; omega
    rw [List.getElem_take]
    exact h1 j hj'.2 hj'.1
  have hy : ∀ a ∈ xs.drop k, x < a := by
    intro a ha
    have hlt : k < xs.length := by
      have := List.length_pos_of_mem ha
      simp at this
      omega
    rw [drop_cons xs k hlt] at ha hb
    rw [List.pairwise_cons] at hb
    have h3 := h2 hlt
    rcases List.mem_cons.1 ha with rfl | ha
    · exact h3
    · have := hb.1 a ha; omega
  constructor
  · rw [List.append_assoc, List.pairwise_append]
    refine ⟨ha, ?_, ?_⟩
    · rw [List.singleton_append, List.pairwise_cons]
      exact ⟨hy, hb⟩
    · intro a ha2 b hb2
      rw [List.singleton_append, List.mem_cons] at hb2
      rcases hb2 with rfl | hb2
      · exact hx a ha2
      · exact hc a ha2 b hb2
  · intro z
    have : z ∈ xs ↔ z ∈ xs.take k ∨ z ∈ xs.drop k := by rw [← List.mem_append, List.take_append_drop]
    rw [this]
    simp only [List.mem_append, List.mem_singleton]
    constructor
    · rintro ((h | h) | h) <;> simp [h]
    · rintro ((h | h) | h) <;> simp [h]

theorem putv_there (xs : List Int) (x : Int) (k : Nat) (hk : k < xs.length) (he : xs[k] = x) : ∀ z, z ∈ xs ↔ z ∈ xs ∨ z = x := fun z => by
  constructor
  · exact .inl
  · rintro (h | rfl)
    · exact h
    · rw [← he]; exact List.getElem_mem hk

end Go.Proofs.Ytgiabadkbfbilaa
