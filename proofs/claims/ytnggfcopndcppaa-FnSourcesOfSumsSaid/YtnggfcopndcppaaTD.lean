/-
  Sources of sums: sums of pairs of digits from outside in, told by the number that they make: plain mathematics.
-/
import Derived.Test.YtnggfcopndcppaaTA
namespace Go.Proofs.Ytnggfcopndcppaa
set_option linter.unusedVariables false
set_option linter.unusedSimpArgs false

/-- The number that sums of pairs make; the outermost pair first, a middle one alone. -/
def vlH (b : Int) : Nat → List Int → Int
  | 0, _ => 0
  | 1, s :: _ => s
  | 1, [] => 0
  | w + 2, s :: H => s * (b ^ (w + 1) + 1) + b * vlH b w H
  | _ + 2, [] => 0

/-- Sums of pairs for a width. -/
structure RH (b : Int) (w : Nat) (H : List Int) : Prop where
  len : H.length = (w + 1) / 2
  all : ∀ s ∈ H, 0 ≤ s ∧ s ≤ 2 * b - 2

theorem RH.tail {b : Int} {w : Nat} {s : Int} {H : List Int} (h : RH b (w + 2) (s :: H)) : RH b w H :=
  ⟨by have := h.len; simp at this; omega, fun q hq => h.all q (by simp [hq])⟩
theorem RH.cons {b : Int} {w : Nat} {s : Int} {H : List Int} (h : RH b w H) (h1 : 0 ≤ s) (h2 : s ≤ 2 * b - 2) : RH b (w + 2) (s :: H) :=
  ⟨by have := h.len; simp; omega, fun q hq => by exact (List.mem_cons.1 hq).elim (fun e => by rw [e]; exact ⟨h1, h2⟩) (h.all q)⟩

theorem pow_pos' (b : Int) (hb : 2 ≤ b) (n : Nat) : 1 ≤ b ^ n := by
  have : 0 < b ^ n := Int.pow_pos (by omega)
  omega

theorem vlH_bd {b : Int} (hb : 2 ≤ b) : ∀ (w : Nat) (H : List Int), RH b w H → 0 ≤ vlH b w H ∧ vlH b w H ≤ 2 * b ^ w - 2 := by
  intro w
  induction w using Nat.strongRecOn with
  | ind w ih =>
    intro H h
    match w, H, h with
    | 0, H, h => simp [vlH]
    | 1, [], h => have := h.len; simp at this
    | 1, s :: _, h =>
      have := h.all s (by simp)
      simp only [vlH]
      rw [Int.pow_one]; omega
    | w + 2, [], h => have := h.len; simp at this; omega
    | w + 2, s :: H, h =>
      have h1 := h.all s (by simp)
      have h2 := ih w (by omega) H h.tail
      simp only [vlH]
      have hp := pow_pos' b hb (w + 1)
      have e1 : b ^ (w + 2) = b ^ (w + 1) * b := Int.pow_succ _ _
      have e2 : b ^ (w + 1) = b ^ w * b := Int.pow_succ _ _
      have a1 : 0 ≤ s * (b ^ (w + 1) + 1) := Int.mul_nonneg h1.1 (by omega)
      have a2 : 0 ≤ b * vlH b w H := Int.mul_nonneg (by omega) h2.1
      have a3 : s * (b ^ (w + 1) + 1) ≤ (2 * b - 2) * (b ^ (w + 1) + 1) := Int.mul_le_mul_of_nonneg_right h1.2 (by omega)
      have a4 : b * vlH b w H ≤ b * (2 * b ^ w - 2) := Int.mul_le_mul_of_nonneg_left h2.2 (by omega)
      refine ⟨by omega, ?_⟩
      have a5 : (2 * b - 2) * (b ^ (w + 1) + 1) + b * (2 * b ^ w - 2) = 2 * b ^ (w + 2) - 2 := by
        rw [e1, e2]; grind
      omega

/-- The sums of pairs that make a number, if there are some: the outermost pair is known but for one base. -/
def solF (b : Int) : Nat → Int → Option (List Int)
  | 0, v => if v = 0 then some [] else none
  | 1, v => if 0 ≤ v ∧ v ≤ 2 * b - 2 then some [v] else none
  | w + 2, v =>
    let tryP := fun p : Int => if p ≤ 2 * b - 2 ∧ 0 ≤ v - p * (b ^ (w + 1) + 1) then (solF b w ((v - p * (b ^ (w + 1) + 1)) / b)).map (p :: ·) else none
    (tryP (v % b)).or (tryP (v % b + b))

/-- One pair tried. -/
def tryF (b : Int) (w : Nat) (v p : Int) : Option (List Int) := if p ≤ 2 * b - 2 ∧ 0 ≤ v - p * (b ^ (w + 1) + 1) then (solF b w ((v - p * (b ^ (w + 1) + 1)) / b)).map (p :: ·) else none
theorem solF_step (b : Int) (w : Nat) (v : Int) : solF b (w + 2) v = (tryF b w v (v % b)).or (tryF b w v (v % b + b)) := by
  show solF b (w + 2) v = _
  rw [solF]; rfl

theorem mul_pow_mod (b p : Int) (w : Nat) (hb : 2 ≤ b) : (p * (b ^ (w + 1) + 1)) % b = p % b := by
  have e2 : b ^ (w + 1) = b * b ^ w := by rw [Int.pow_succ, Int.mul_comm]
  rw [e2, show p * (b * b ^ w + 1) = p + b * (p * b ^ w) by grind, Int.add_mul_emod_self_left]

theorem solF_sound {b : Int} (hb : 2 ≤ b) : ∀ (w : Nat) (v : Int) (H : List Int), 0 ≤ v → solF b w v = some H → RH b w H ∧ vlH b w H = v := by
  intro w
  induction w using Nat.strongRecOn with
  | ind w ih =>
    intro v H h0 h
    match w with
    | 0 =>
      simp only [solF] at h
      split at h
      · cases h; exact ⟨⟨rfl, fun s hs => by simp at hs⟩, by simp [vlH]; omega⟩
      · cases h
    | 1 =>
      simp only [solF] at h
      split at h
      · next hc => cases h; exact ⟨⟨rfl, fun s hs => by simp at hs; rw [hs]; exact hc⟩, rfl⟩
      · cases h
    | w + 2 =>
      rw [solF_step] at h
      have hm0 := Int.emod_nonneg v (show b ≠ 0 by omega)
      have hm1 := Int.emod_lt_of_pos v (show 0 < b by omega)
      have key : ∀ p, 0 ≤ p → p % b = v % b → tryF b w v p = some H → RH b (w + 2) H ∧ vlH b (w + 2) H = v := by
        intro p hp hpm ht
        unfold tryF at ht
        split at ht
        · next hc =>
          cases hs : solF b w ((v - p * (b ^ (w + 1) + 1)) / b) with
          | none => rw [hs] at ht; cases ht
          | some K =>
            rw [hs] at ht
            simp only [Option.map_some, Option.some.injEq] at ht
            subst ht
            have hd : (v - p * (b ^ (w + 1) + 1)) % b = 0 := by
              rw [Int.sub_emod, mul_pow_mod b p w hb, hpm, Int.sub_self, Int.zero_emod]
            have hdv := Int.mul_ediv_cancel' (Int.dvd_of_emod_eq_zero hd)
            have h2 := ih w (by omega) _ K (Int.ediv_nonneg hc.2 (by omega)) hs
            refine ⟨h2.1.cons hp hc.1, ?_⟩
            simp only [vlH]
            rw [h2.2, hdv]; omega
        · cases ht
      cases ht : tryF b w v (v % b) with
      | some K =>
        rw [ht] at h
        simp only [Option.some_or, Option.some.injEq] at h
        subst h
        exact key _ hm0 (Int.emod_emod_of_dvd _ (Int.dvd_refl b)) ht
      | none =>
        rw [ht] at h
        simp only [Option.none_or] at h
        exact key _ (by omega) (by rw [Int.add_emod_right, Int.emod_emod_of_dvd _ (Int.dvd_refl b)]) h

/-- Sums of pairs that make the same number are the same. -/
theorem vlH_inj {b : Int} (hb : 2 ≤ b) : ∀ (w : Nat) (H K : List Int), RH b w H → RH b w K → vlH b w H = vlH b w K → H = K := by
  intro w
  induction w using Nat.strongRecOn with
  | ind w ih =>
    intro H K hH hK he
    match w, H, K, hH, hK, he with
    | 0, H, K, hH, hK, he =>
      have h1 := hH.len; have h2 := hK.len
      simp at h1 h2; rw [h1, h2]
    | 1, [], K, hH, hK, he => have := hH.len; simp at this
    | 1, _ :: _, [], hH, hK, he => have := hK.len; simp at this
    | 1, s :: H, t :: K, hH, hK, he =>
      have h1 := hH.len; have h2 := hK.len
      simp at h1 h2; subst h1; subst h2
      simp only [vlH] at he; rw [he]
    | w + 2, [], K, hH, hK, he => have := hH.len; simp at this; omega
    | w + 2, _ :: _, [], hH, hK, he => have := hK.len; simp at this; omega
    | w + 2, s :: H, t :: K, hH, hK, he =>
      simp only [vlH] at he
      have hs := hH.all s (by simp)
      have ht := hK.all t (by simp)
      have bH := vlH_bd hb w H hH.tail
      have bK := vlH_bd hb w K hK.tail
      have hm : s % b = t % b := by
        have := congrArg (· % b) he
        simp only [Int.add_mul_emod_self_left, mul_pow_mod b _ w hb] at this
        exact this
      have hdv : b ∣ s - t := Int.dvd_of_emod_eq_zero (Int.emod_eq_emod_iff_emod_sub_eq_zero.1 hm)
      obtain ⟨q, hq⟩ := hdv
      have hp := pow_pos' b hb w
      have e2 : b ^ (w + 1) = b * b ^ w := by rw [Int.pow_succ, Int.mul_comm]
      have hmid : q * (b ^ (w + 1) + 1) + vlH b w H = vlH b w K := by
        have h3 : b * (q * (b ^ (w + 1) + 1) + vlH b w H) = b * vlH b w K := by
          have h4 : s = t + b * q := by omega
          rw [h4] at he
          grind
        exact Int.eq_of_mul_eq_mul_left (by omega) h3
      have hbig : 2 * b ^ w ≤ b ^ (w + 1) := by rw [e2]; exact Int.mul_le_mul_of_nonneg_right hb (by omega)
      have hq0 : q = 0 := by
        rcases Int.lt_trichotomy q 0 with h | h | h
        · have h5 : q * (b ^ (w + 1) + 1) ≤ (-1) * (b ^ (w + 1) + 1) := Int.mul_le_mul_of_nonneg_right (by omega) (by omega)
          omega
        · exact h
        · have h5 : 1 * (b ^ (w + 1) + 1) ≤ q * (b ^ (w + 1) + 1) := Int.mul_le_mul_of_nonneg_right (by omega) (by omega)
          omega
      subst hq0
      have hst : s = t := by omega
      rw [hst, ih w (by omega) H K hH.tail hK.tail (by omega)]

theorem solF_complete {b : Int} (hb : 2 ≤ b) : ∀ (w : Nat) (H : List Int), RH b w H → solF b w (vlH b w H) = some H := by
  intro w
  induction w using Nat.strongRecOn with
  | ind w ih =>
    intro H h
    match w, H, h with
    | 0, H, h => have := h.len; simp at this; subst this; rfl
    | 1, [], h => have := h.len; simp at this
    | 1, s :: H, h =>
      have h1 := h.len; simp at h1; subst h1
      have h2 := h.all s (by simp)
      show (if 0 ≤ s ∧ s ≤ 2 * b - 2 then some [s] else none) = some [s]
      rw [if_pos h2]
    | w + 2, [], h => have := h.len; simp at this; omega
    | w + 2, s :: H, h =>
      have hs := h.all s (by simp)
      have bH := vlH_bd hb w H h.tail
      obtain ⟨v, hv⟩ : ∃ v, v = vlH b (w + 2) (s :: H) := ⟨_, rfl⟩
      have hv' : v = s * (b ^ (w + 1) + 1) + b * vlH b w H := hv
      have hp := pow_pos' b hb (w + 1)
      have hv0 : 0 ≤ v := by
        have a1 : 0 ≤ s * (b ^ (w + 1) + 1) := Int.mul_nonneg hs.1 (by omega)
        have a2 : 0 ≤ b * vlH b w H := Int.mul_nonneg (by omega) bH.1
        omega
      have hms : v % b = s % b := by rw [hv', Int.add_mul_emod_self_left, mul_pow_mod b s w hb]
      have hgo : tryF b w v s = some (s :: H) := by
        unfold tryF
        have hr : v - s * (b ^ (w + 1) + 1) = b * vlH b w H := by omega
        rw [hr, if_pos ⟨hs.2, Int.mul_nonneg (by omega) bH.1⟩, Int.mul_ediv_cancel_left _ (by omega), ih w (by omega) H h.tail]
        rfl
      rw [← hv]
      have hone : ∃ K, solF b (w + 2) v = some K := by
        rw [solF_step]
        by_cases hsb : s < b
        · rw [hms, Int.emod_eq_of_lt hs.1 hsb, hgo]; exact ⟨_, rfl⟩
        · have e : s % b = s - b := by
            have h9 : (s - b + b) % b = (s - b) % b := Int.add_emod_right _ _
            rw [show s - b + b = s by omega, Int.emod_eq_of_lt (a := s - b) (by omega) (by omega)] at h9
            exact h9
          rw [hms, e, show s - b + b = s by omega, hgo]
          cases tryF b w v (s - b) <;> exact ⟨_, rfl⟩
      obtain ⟨K, hK⟩ := hone
      have := solF_sound hb (w + 2) v K hv0 hK
      rw [hK, vlH_inj hb (w + 2) K (s :: H) this.1 h (by rw [this.2, hv])]

/-- In how many ways two digits have a sum, the first one at least some. -/
def prW (b least s : Int) : Int := if max least (s - (b - 1)) ≤ min (b - 1) s then min (b - 1) s - max least (s - (b - 1)) + 1 else 0
theorem prW_nn (b least s : Int) : 0 ≤ prW b least s := by unfold prW; split <;> omega
theorem prW_le (b least s : Int) (hb : 2 ≤ b) (hl : 0 ≤ least) : prW b least s ≤ b := by unfold prW; split <;> omega

/-- How many digits have sums of pairs. -/
def cntH (b : Int) : Nat → Int → List Int → Int
  | 0, _, _ => 1
  | 1, least, s :: _ => if s % 2 = 0 ∧ least ≤ s / 2 then 1 else 0
  | 1, _, [] => 0
  | w + 2, least, s :: H => prW b least s * cntH b w 0 H
  | _ + 2, _, [] => 0
/-- The first ones of them. -/
def fstH (b : Int) : Nat → Int → List Int → List Int
  | 0, _, _ => []
  | 1, _, s :: _ => [s / 2]
  | 1, _, [] => []
  | w + 2, least, s :: H => max least (s - (b - 1)) :: (fstH b w 0 H ++ [s - max least (s - (b - 1))])
  | _ + 2, _, [] => []

theorem cntH_nn (b : Int) : ∀ (w : Nat) (least : Int) (H : List Int), 0 ≤ cntH b w least H := by
  intro w
  induction w using Nat.strongRecOn with
  | ind w ih =>
    intro least H
    match w, H with
    | 0, H => simp [cntH]
    | 1, [] => simp [cntH]
    | 1, s :: _ => simp only [cntH]; split <;> omega
    | w + 2, [] => simp [cntH]
    | w + 2, s :: H => exact Int.mul_nonneg (prW_nn _ _ _) (ih w (by omega) 0 H)
theorem cntH_le (b : Int) (hb : 2 ≤ b) : ∀ (w : Nat) (least : Int) (H : List Int), 0 ≤ least → cntH b w least H ≤ b ^ ((w + 1) / 2) := by
  intro w
  induction w using Nat.strongRecOn with
  | ind w ih =>
    intro least H hl
    have hp := pow_pos' b hb ((w + 1) / 2)
    match w, H with
    | 0, H => simp [cntH]
    | 1, [] => simp only [cntH]; omega
    | 1, s :: _ => simp only [cntH]; split <;> omega
    | w + 2, [] => simp only [cntH]; omega
    | w + 2, s :: H =>
      have h1 := ih w (by omega) 0 H (by omega)
      have h2 := prW_le b least s hb hl
      have h3 := prW_nn b least s
      have h4 := cntH_nn b w 0 H
      simp only [cntH]
      rw [show (w + 2 + 1) / 2 = (w + 1) / 2 + 1 by omega, Int.pow_succ, Int.mul_comm]
      exact Int.mul_le_mul h1 h2 h3 (by have := pow_pos' b hb ((w + 1) / 2); omega)

/-- How many lists of digits of a width make a number together with themselves backwards, and the first one. -/
def srcV (b : Int) (w : Nat) (v least : Int) : Int × List Int :=
  match solF b w v with
  | some H => if cntH b w least H = 0 then (0, []) else (cntH b w least H, fstH b w least H)
  | none => (0, [])

theorem srcV_nn (b : Int) (w : Nat) (v least : Int) : 0 ≤ (srcV b w v least).1 := by
  unfold srcV
  split
  · split
    · exact Int.le_refl 0
    · exact cntH_nn _ _ _ _
  · exact Int.le_refl 0

/-- One round of the search: a pair tried, or else the rest of it. -/
def rndV (b : Int) (w : Nat) (v least p : Int) (rest : Int × List Int) : Int × List Int :=
  if p ≤ 2 * (b - 1) then
    if v - p * (b ^ (w + 1) + 1) < 0 ∨ min (b - 1) p < max least (p - (b - 1)) then rest
    else if 0 < (srcV b w ((v - p * (b ^ (w + 1) + 1)) / b) 0).1 then
      ((srcV b w ((v - p * (b ^ (w + 1) + 1)) / b) 0).1 * (min (b - 1) p - max least (p - (b - 1)) + 1), max least (p - (b - 1)) :: ((srcV b w ((v - p * (b ^ (w + 1) + 1)) / b) 0).2 ++ [p - max least (p - (b - 1))]))
    else rest
  else rest

theorem rnd_none {b : Int} {w : Nat} {v least p : Int} (rest : Int × List Int) (h : tryF b w v p = none) : rndV b w v least p rest = rest := by
  unfold rndV
  by_cases h1 : p ≤ 2 * (b - 1)
  · rw [if_pos h1]
    split
    · rfl
    · next h2 =>
      unfold tryF at h
      rw [if_pos ⟨by omega, by omega⟩] at h
      have hs : solF b w ((v - p * (b ^ (w + 1) + 1)) / b) = none := by
        cases hq : solF b w ((v - p * (b ^ (w + 1) + 1)) / b) with
        | none => rfl
        | some K => rw [hq] at h; cases h
      have : (srcV b w ((v - p * (b ^ (w + 1) + 1)) / b) 0).1 = 0 := by unfold srcV; rw [hs]
      rw [if_neg (by omega)]
  · rw [if_neg h1]

theorem rnd_some {b : Int} {w : Nat} {v least p : Int} {H : List Int} (h : tryF b w v p = some (p :: H)) :
    rndV b w v least p (0, []) = if cntH b (w + 2) least (p :: H) = 0 then (0, []) else (cntH b (w + 2) least (p :: H), fstH b (w + 2) least (p :: H)) := by
  unfold tryF at h
  split at h
  · next hc =>
    have hs : solF b w ((v - p * (b ^ (w + 1) + 1)) / b) = some H := by
      cases hq : solF b w ((v - p * (b ^ (w + 1) + 1)) / b) with
      | none => rw [hq] at h; cases h
      | some K => rw [hq] at h; simp at h; rw [h]
    unfold rndV
    rw [if_pos (by omega)]
    have hn := cntH_nn b w 0 H
    have hsv : srcV b w ((v - p * (b ^ (w + 1) + 1)) / b) 0 = if cntH b w 0 H = 0 then (0, []) else (cntH b w 0 H, fstH b w 0 H) := by unfold srcV; rw [hs]
    rw [hsv]
    have hc2 : cntH b (w + 2) least (p :: H) = prW b least p * cntH b w 0 H := rfl
    have hf2 : fstH b (w + 2) least (p :: H) = max least (p - (b - 1)) :: (fstH b w 0 H ++ [p - max least (p - (b - 1))]) := rfl
    rw [hc2, hf2]
    by_cases h1 : max least (p - (b - 1)) ≤ min (b - 1) p
    · have hpr : prW b least p = min (b - 1) p - max least (p - (b - 1)) + 1 := by unfold prW; rw [if_pos h1]
      rw [if_neg (by omega)]
      by_cases h2 : cntH b w 0 H = 0
      · have hz : prW b least p * cntH b w 0 H = 0 := by rw [h2, Int.mul_zero]
        rw [if_pos h2, if_neg (by simp), if_pos hz]
      · have hz : ¬ prW b least p * cntH b w 0 H = 0 := fun hc3 => by
          rcases Int.mul_eq_zero.1 hc3 with h3 | h3
          · omega
          · exact h2 h3
        rw [if_neg h2, if_pos (by show 0 < cntH b w 0 H; omega), if_neg hz, hpr, Int.mul_comm]
    · have hpr : prW b least p = 0 := by unfold prW; rw [if_neg h1]
      have hz : prW b least p * cntH b w 0 H = 0 := by rw [hpr, Int.zero_mul]
      rw [if_pos (by omega), if_pos hz]
  · cases h

theorem tryF_head {b : Int} {w : Nat} {v p : Int} {K : List Int} (h : tryF b w v p = some K) : ∃ H, K = p :: H := by
  unfold tryF at h
  split at h
  · cases hq : solF b w ((v - p * (b ^ (w + 1) + 1)) / b) with
    | none => rw [hq] at h; cases h
    | some H => rw [hq] at h; simp at h; exact ⟨H, h.symm⟩
  · cases h

/-- The search as the program makes it. -/
theorem srcV_step {b : Int} (hb : 2 ≤ b) (w : Nat) (v least : Int) (h0 : 0 ≤ v) : srcV b (w + 2) v least = rndV b w v least (v % b) (rndV b w v least (v % b + b) (0, [])) := by
  have hsound : ∀ K, (tryF b w v (v % b)).or (tryF b w v (v % b + b)) = some K → RH b (w + 2) K ∧ vlH b (w + 2) K = v := fun K hK => solF_sound hb (w + 2) v K h0 (by rw [solF_step]; exact hK)
  unfold srcV
  rw [solF_step]
  cases h1 : tryF b w v (v % b) with
  | none =>
    rw [rnd_none _ h1]
    cases h2 : tryF b w v (v % b + b) with
    | none => rw [rnd_none _ h2]; rfl
    | some K =>
      obtain ⟨H, rfl⟩ := tryF_head h2
      rw [rnd_some h2]; rfl
  | some K =>
    obtain ⟨H, rfl⟩ := tryF_head h1
    have h2 : tryF b w v (v % b + b) = none := by
      cases h2 : tryF b w v (v % b + b) with
      | none => rfl
      | some J =>
        obtain ⟨G, rfl⟩ := tryF_head h2
        have a1 := hsound _ (by rw [h1]; rfl)
        have hm0 := Int.emod_nonneg v (show b ≠ 0 by omega)
        have a2 : RH b (w + 2) ((v % b + b) :: G) ∧ vlH b (w + 2) ((v % b + b) :: G) = v := by
          unfold tryF at h2
          split at h2
          · next hc =>
            have hs : solF b w ((v - (v % b + b) * (b ^ (w + 1) + 1)) / b) = some G := by
              cases hq : solF b w ((v - (v % b + b) * (b ^ (w + 1) + 1)) / b) with
              | none => rw [hq] at h2; cases h2
              | some K => rw [hq] at h2; simp at h2; rw [h2]
            have hd : (v - (v % b + b) * (b ^ (w + 1) + 1)) % b = 0 := by
              rw [Int.sub_emod, mul_pow_mod b _ w hb, Int.add_emod_right, Int.emod_emod_of_dvd _ (Int.dvd_refl b), Int.sub_self, Int.zero_emod]
            have hdv := Int.mul_ediv_cancel' (Int.dvd_of_emod_eq_zero hd)
            have h3 := solF_sound hb w _ G (Int.ediv_nonneg hc.2 (by omega)) hs
            refine ⟨h3.1.cons (by omega) hc.1, ?_⟩
            simp only [vlH]
            rw [h3.2, hdv]; omega
          · cases h2
        have := vlH_inj hb (w + 2) _ _ a1.1 a2.1 (by rw [a1.2, a2.2])
        simp at this
        omega
    rw [rnd_none _ h2, rnd_some h1]; rfl

end Go.Proofs.Ytnggfcopndcppaa
