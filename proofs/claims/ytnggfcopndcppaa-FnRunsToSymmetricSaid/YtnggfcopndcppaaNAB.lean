/-
  Joint text of TD NA NB (written by wip/tools/merge.py).
-/
import Derived.Test.YtnggfcopndcppaaTA
import Derived.Test.YtnggfcopndcppaaTE
import Derived.Test.YtnggfcopndcppaaT
import Derived.Test.YtnggfcopndcppaaA
import Derived.Test.YtnggfcopndcppaaE
/- from XTD -/
namespace Go.Proofs.Ytnggfcopndcppaa
set_option linter.unusedVariables false
set_option linter.unusedSimpArgs false

/-- The number that sums of pairs make; the outermost pair first, a middle one alone. -/
def vlH (b : Int) : Nat → List Int → Int
  | 0, _ => 0
  | 1, s :: _ => s
  | 1, [] => 0
  | w + 2, s :: H => s * (b ^ (w + 1) + 1) + b * vlH b w H
  | _ + 2, [] => 0

/-- Sums of pairs for a width. -/
structure RH (b : Int) (w : Nat) (H : List Int) : Prop where
  len : H.length = (w + 1) / 2
  all : ∀ s ∈ H, 0 ≤ s ∧ s ≤ 2 * b - 2

theorem RH.tail {b : Int} {w : Nat} {s : Int} {H : List Int} (h : RH b (w + 2) (s :: H)) : RH b w H :=
  ⟨by have := h.len; simp at this; omega, fun q hq => h.all q (by simp [hq])⟩
theorem RH.cons {b : Int} {w : Nat} {s : Int} {H : List Int} (h : RH b w H) (h1 : 0 ≤ s) (h2 : s ≤ 2 * b - 2) : RH b (w + 2) (s :: H) :=
  ⟨by have := h.len; simp; omega, fun q hq => by exact (List.mem_cons.1 hq).elim (fun e => by rw [e]; exact ⟨h1, h2⟩) (h.all q)⟩

theorem pow_pos' (b : Int) (hb : 2 ≤ b) (n : Nat) : 1 ≤ b ^ n := by
  have : 0 < b ^ n := Int.pow_pos (by omega)
  omega

theorem vlH_bd {b : Int} (hb : 2 ≤ b) : ∀ (w : Nat) (H : List Int), RH b w H → 0 ≤ vlH b w H ∧ vlH b w H ≤ 2 * b ^ w - 2 := by
  intro w
  induction w using Nat.strongRecOn with
  | ind w ih =>
    intro H h
    match w, H, h with
    | 0, H, h => simp [vlH]
    | 1, [], h => have := h.len; simp at this
    | 1, s :: _, h =>
      have := h.all s (by simp)
      simp only [vlH]
      rw [Int.pow_one]; omega
    | w + 2, [], h => have := h.len; simp at this; omega
    | w + 2, s :: H, h =>
      have h1 := h.all s (by simp)
      have h2 := ih w (by omega) H h.tail
      simp only [vlH]
      have hp := pow_pos' b hb (w + 1)
      have e1 : b ^ (w + 2) = b ^ (w + 1) * b := Int.pow_succ _ _
      have e2 : b ^ (w + 1) = b ^ w * b := Int.pow_succ _ _
      have a1 : 0 ≤ s * (b ^ (w + 1) + 1) := Int.mul_nonneg h1.1 (by omega)
      have a2 : 0 ≤ b * vlH b w H := Int.mul_nonneg (by omega) h2.1
      have a3 : s * (b ^ (w + 1) + 1) ≤ (2 * b - 2) * (b ^ (w + 1) + 1) := Int.mul_le_mul_of_nonneg_right h1.2 (by omega)
      have a4 : b * vlH b w H ≤ b * (2 * b ^ w - 2) := Int.mul_le_mul_of_nonneg_left h2.2 (by omega)
      refine ⟨by omega, ?_⟩
      have a5 : (2 * b - 2) * (b ^ (w + 1) + 1) + b * (2 * b ^ w - 2) = 2 * b ^ (w + 2) - 2 := by
        rw [e1, e2]; grind
      omega

/-- The sums of pairs that make a number, if there are some: the outermost pair is known but for one base. -/
def solF (b : Int) : Nat → Int → Option (List Int)
  | 0, v => if v = 0 then some [] else none
  | 1, v => if 0 ≤ v ∧ v ≤ 2 * b - 2 then some [v] else none
  | w + 2, v =>
    let tryP := fun p : Int => if p ≤ 2 * b - 2 ∧ 0 ≤ v - p * (b ^ (w + 1) + 1) then (solF b w ((v - p * (b ^ (w + 1) + 1)) / b)).map (p :: ·) else none
    (tryP (v % b)).or (tryP (v % b + b))

/-- One pair tried. -/
def tryF (b : Int) (w : Nat) (v p : Int) : Option (List Int) := if p ≤ 2 * b - 2 ∧ 0 ≤ v - p * (b ^ (w + 1) + 1) then (solF b w ((v - p * (b ^ (w + 1) + 1)) / b)).map (p :: ·) else none
theorem solF_step (b : Int) (w : Nat) (v : Int) : solF b (w + 2) v = (tryF b w v (v % b)).or (tryF b w v (v % b + b)) := by
  show solF b (w + 2) v = _
  rw [solF]; rfl

theorem mul_pow_mod (b p : Int) (w : Nat) (hb : 2 ≤ b) : (p * (b ^ (w + 1) + 1)) % b = p % b := by
  have e2 : b ^ (w + 1) = b * b ^ w := by rw [Int.pow_succ, Int.mul_comm]
  rw [e2, show p * (b * b ^ w + 1) = p + b * (p * b ^ w) by grind, Int.add_mul_emod_self_left]

theorem solF_sound {b : Int} (hb : 2 ≤ b) : ∀ (w : Nat) (v : Int) (H : List Int), 0 ≤ v → solF b w v = some H → RH b w H ∧ vlH b w H = v := by
  intro w
  induction w using Nat.strongRecOn with
  | ind w ih =>
    intro v H h0 h
    match w with
    | 0 =>
      simp only [solF] at h
      split at h
      · cases h; exact ⟨⟨rfl, fun s hs => by simp at hs⟩, by simp [vlH]; omega⟩
      · cases h
    | 1 =>
      simp only [solF] at h
      split at h
      · next hc => cases h; exact ⟨⟨rfl, fun s hs => by simp at hs; rw [hs]; exact hc⟩, rfl⟩
      · cases h
    | w + 2 =>
      rw [solF_step] at h
      have hm0 := Int.emod_nonneg v (show b ≠ 0 by omega)
      have hm1 := Int.emod_lt_of_pos v (show 0 < b by omega)
      have key : ∀ p, 0 ≤ p → p % b = v % b → tryF b w v p = some H → RH b (w + 2) H ∧ vlH b (w + 2) H = v := by
        intro p hp hpm ht
        unfold tryF at ht
        split at ht
        · next hc =>
          cases hs : solF b w ((v - p * (b ^ (w + 1) + 1)) / b) with
          | none => rw [hs] at ht; cases ht
          | some K =>
            rw [hs] at ht
            simp only [Option.map_some, Option.some.injEq] at ht
            subst ht
            have hd : (v - p * (b ^ (w + 1) + 1)) % b = 0 := by
              rw [Int.sub_emod, mul_pow_mod b p w hb, hpm, Int.sub_self, Int.zero_emod]
            have hdv := Int.mul_ediv_cancel' (Int.dvd_of_emod_eq_zero hd)
            have h2 := ih w (by omega) _ K (Int.ediv_nonneg hc.2 (by omega)) hs
            refine ⟨h2.1.cons hp hc.1, ?_⟩
            simp only [vlH]
            rw [h2.2, hdv]; omega
        · cases ht
      cases ht : tryF b w v (v % b) with
      | some K =>
        rw [ht] at h
        simp only [Option.some_or, Option.some.injEq] at h
        subst h
        exact key _ hm0 (Int.emod_emod_of_dvd _ (Int.dvd_refl b)) ht
      | none =>
        rw [ht] at h
        simp only [Option.none_or] at h
        exact key _ (by omega) (by rw [Int.add_emod_right, Int.emod_emod_of_dvd _ (Int.dvd_refl b)]) h

/-- Sums of pairs that make the same number are the same. -/
theorem vlH_inj {b : Int} (hb : 2 ≤ b) : ∀ (w : Nat) (H K : List Int), RH b w H → RH b w K → vlH b w H = vlH b w K → H = K := by
  intro w
  induction w using Nat.strongRecOn with
  | ind w ih =>
    intro H K hH hK he
    match w, H, K, hH, hK, he with
    | 0, H, K, hH, hK, he =>
      have h1 := hH.len; have h2 := hK.len
      simp at h1 h2; rw [h1, h2]
    | 1, [], K, hH, hK, he => have := hH.len; simp at this
    | 1, _ :: _, [], hH, hK, he => have := hK.len; simp at this
    | 1, s :: H, t :: K, hH, hK, he =>
      have h1 := hH.len; have h2 := hK.len
      simp at h1 h2; subst h1; subst h2
      simp only [vlH] at he; rw [he]
    | w + 2, [], K, hH, hK, he => have := hH.len; simp at this; omega
    | w + 2, _ :: _, [], hH, hK, he => have := hK.len; simp at this; omega
    | w + 2, s :: H, t :: K, hH, hK, he =>
      simp only [vlH] at he
      have hs := hH.all s (by simp)
      have ht := hK.all t (by simp)
      have bH := vlH_bd hb w H hH.tail
      have bK := vlH_bd hb w K hK.tail
      have hm : s % b = t % b := by
        have := congrArg (· % b) he
        simp only [Int.add_mul_emod_self_left, mul_pow_mod b _ w hb] at this
        exact this
      have hdv : b ∣ s - t := Int.dvd_of_emod_eq_zero (Int.emod_eq_emod_iff_emod_sub_eq_zero.1 hm)
      obtain ⟨q, hq⟩ := hdv
      have hp := pow_pos' b hb w
      have e2 : b ^ (w + 1) = b * b ^ w := by rw [Int.pow_succ, Int.mul_comm]
      have hmid : q * (b ^ (w + 1) + 1) + vlH b w H = vlH b w K := by
        have h3 : b * (q * (b ^ (w + 1) + 1) + vlH b w H) = b * vlH b w K := by
          have h4 : s = t + b * q := by omega
          rw [h4] at he
          grind
        exact Int.eq_of_mul_eq_mul_left (by omega) h3
      have hbig : 2 * b ^ w ≤ b ^ (w + 1) := by rw [e2]; exact Int.mul_le_mul_of_nonneg_right hb (by omega)
      have hq0 : q = 0 := by
        rcases Int.lt_trichotomy q 0 with h | h | h
        · have h5 : q * (b ^ (w + 1) + 1) ≤ (-1) * (b ^ (w + 1) + 1) := Int.mul_le_mul_of_nonneg_right (by omega) (by omega)
          omega
        · exact h
        · have h5 : 1 * (b ^ (w + 1) + 1) ≤ q * (b ^ (w + 1) + 1) := Int.mul_le_mul_of_nonneg_right (by omega) (by omega)
          omega
      subst hq0
      have hst : s = t := by omega
      rw [hst, ih w (by omega) H K hH.tail hK.tail (by omega)]

theorem solF_complete {b : Int} (hb : 2 ≤ b) : ∀ (w : Nat) (H : List Int), RH b w H → solF b w (vlH b w H) = some H := by
  intro w
  induction w using Nat.strongRecOn with
  | ind w ih =>
    intro H h
    match w, H, h with
    | 0, H, h => have := h.len; simp at this; subst this; rfl
    | 1, [], h => have := h.len; simp at this
    | 1, s :: H, h =>
      have h1 := h.len; simp at h1; subst h1
      have h2 := h.all s (by simp)
      show (if 0 ≤ s ∧ s ≤ 2 * b - 2 then some [s] else none) = some [s]
      rw [if_pos h2]
    | w + 2, [], h => have := h.len; simp at this; omega
    | w + 2, s :: H, h =>
      have hs := h.all s (by simp)
      have bH := vlH_bd hb w H h.tail
      obtain ⟨v, hv⟩ : ∃ v, v = vlH b (w + 2) (s :: H) := ⟨_, rfl⟩
      have hv' : v = s * (b ^ (w + 1) + 1) + b * vlH b w H := hv
      have hp := pow_pos' b hb (w + 1)
      have hv0 : 0 ≤ v := by
        have a1 : 0 ≤ s * (b ^ (w + 1) + 1) := Int.mul_nonneg hs.1 (by omega)
        have a2 : 0 ≤ b * vlH b w H := Int.mul_nonneg (by omega) bH.1
        omega
      have hms : v % b = s % b := by rw [hv', Int.add_mul_emod_self_left, mul_pow_mod b s w hb]
      have hgo : tryF b w v s = some (s :: H) := by
        unfold tryF
        have hr : v - s * (b ^ (w + 1) + 1) = b * vlH b w H := by omega
        rw [hr, if_pos ⟨hs.2, Int.mul_nonneg (by omega) bH.1⟩, Int.mul_ediv_cancel_left _ (by omega), ih w (by omega) H h.tail]
        rfl
      rw [← hv]
      have hone : ∃ K, solF b (w + 2) v = some K := by
        rw [solF_step]
        by_cases hsb : s < b
        · rw [hms, Int.emod_eq_of_lt hs.1 hsb, hgo]; exact ⟨_, rfl⟩
        · have e : s % b = s - b := by
            have h9 : (s - b + b) % b = (s - b) % b := Int.add_emod_right _ _
            rw [show s - b + b = s by omega, Int.emod_eq_of_lt (a := s - b) (by omega) (by omega)] at h9
            exact h9
          rw [hms, e, show s - b + b = s by omega, hgo]
          cases tryF b w v (s - b) <;> exact ⟨_, rfl⟩
      obtain ⟨K, hK⟩ := hone
      have := solF_sound hb (w + 2) v K hv0 hK
      rw [hK, vlH_inj hb (w + 2) K (s :: H) this.1 h (by rw [this.2, hv])]

/-- In how many ways two digits have a sum, the first one at least some. -/
def prW (b least s : Int) : Int := if max least (s - (b - 1)) ≤ min (b - 1) s then min (b - 1) s - max least (s - (b - 1)) + 1 else 0
theorem prW_nn (b least s : Int) : 0 ≤ prW b least s := by unfold prW; split <;> omega
theorem prW_le (b least s : Int) (hb : 2 ≤ b) (hl : 0 ≤ least) : prW b least s ≤ b := by unfold prW; split <;> omega

/-- How many digits have sums of pairs. -/
def cntH (b : Int) : Nat → Int → List Int → Int
  | 0, _, _ => 1
  | 1, least, s :: _ => if s % 2 = 0 ∧ least ≤ s / 2 then 1 else 0
  | 1, _, [] => 0
  | w + 2, least, s :: H => prW b least s * cntH b w 0 H
  | _ + 2, _, [] => 0
/-- The first ones of them. -/
def fstH (b : Int) : Nat → Int → List Int → List Int
  | 0, _, _ => []
  | 1, _, s :: _ => [s / 2]
  | 1, _, [] => []
  | w + 2, least, s :: H => max least (s - (b - 1)) :: (fstH b w 0 H ++ [s - max least (s - (b - 1))])
  | _ + 2, _, [] => []

theorem cntH_nn (b : Int) : ∀ (w : Nat) (least : Int) (H : List Int), 0 ≤ cntH b w least H := by
  intro w
  induction w using Nat.strongRecOn with
  | ind w ih =>
    intro least H
    match w, H with
    | 0, H => simp [cntH]
    | 1, [] => simp [cntH]
    | 1, s :: _ => simp only [cntH]; split <;> omega
    | w + 2, [] => simp [cntH]
    | w + 2, s :: H => exact Int.mul_nonneg (prW_nn _ _ _) (ih w (by omega) 0 H)
theorem cntH_le (b : Int) (hb : 2 ≤ b) : ∀ (w : Nat) (least : Int) (H : List Int), 0 ≤ least → cntH b w least H ≤ b ^ ((w + 1) / 2) := by
  intro w
  induction w using Nat.strongRecOn with
  | ind w ih =>
    intro least H hl
    have hp := pow_pos' b hb ((w + 1) / 2)
    match w, H with
    | 0, H => simp [cntH]
    | 1, [] => simp only [cntH]; omega
    | 1, s :: _ => simp only [cntH]; split <;> omega
    | w + 2, [] => simp only [cntH]; omega
    | w + 2, s :: H =>
      have h1 := ih w (by omega) 0 H (by omega)
      have h2 := prW_le b least s hb hl
      have h3 := prW_nn b least s
      have h4 := cntH_nn b w 0 H
      simp only [cntH]
      rw [show (w + 2 + 1) / 2 = (w + 1) / 2 + 1 by omega, Int.pow_succ, Int.mul_comm]
      exact Int.mul_le_mul h1 h2 h3 (by have := pow_pos' b hb ((w + 1) / 2); omega)

/-- How many lists of digits of a width make a number together with themselves backwards, and the first one. -/
def srcV (b : Int) (w : Nat) (v least : Int) : Int × List Int :=
  match solF b w v with
  | some H => if cntH b w least H = 0 then (0, []) else (cntH b w least H, fstH b w least H)
  | none => (0, [])

theorem srcV_nn (b : Int) (w : Nat) (v least : Int) : 0 ≤ (srcV b w v least).1 := by
  unfold srcV
  split
  · split
    · exact Int.le_refl 0
    · exact cntH_nn _ _ _ _
  · exact Int.le_refl 0

/-- One round of the search: a pair tried, or else the rest of it. -/
def rndV (b : Int) (w : Nat) (v least p : Int) (rest : Int × List Int) : Int × List Int :=
  if p ≤ 2 * (b - 1) then
    if v - p * (b ^ (w + 1) + 1) < 0 ∨ min (b - 1) p < max least (p - (b - 1)) then rest
    else if 0 < (srcV b w ((v - p * (b ^ (w + 1) + 1)) / b) 0).1 then
      ((srcV b w ((v - p * (b ^ (w + 1) + 1)) / b) 0).1 * (min (b - 1) p - max least (p - (b - 1)) + 1), max least (p - (b - 1)) :: ((srcV b w ((v - p * (b ^ (w + 1) + 1)) / b) 0).2 ++ [p - max least (p - (b - 1))]))
    else rest
  else rest

theorem rnd_none {b : Int} {w : Nat} {v least p : Int} (rest : Int × List Int) (h : tryF b w v p = none) : rndV b w v least p rest = rest := by
  unfold rndV
  by_cases h1 : p ≤ 2 * (b - 1)
  · rw [if_pos h1]
    split
    · rfl
    · next h2 =>
      unfold tryF at h
      rw [if_pos ⟨by omega, by omega⟩] at h
      have hs : solF b w ((v - p * (b ^ (w + 1) + 1)) / b) = none := by
        cases hq : solF b w ((v - p * (b ^ (w + 1) + 1)) / b) with
        | none => rfl
        | some K => rw [hq] at h; cases h
      have : (srcV b w ((v - p * (b ^ (w + 1) + 1)) / b) 0).1 = 0 := by unfold srcV; rw [hs]
      rw [if_neg (by omega)]
  · rw [if_neg h1]

theorem rnd_some {b : Int} {w : Nat} {v least p : Int} {H : List Int} (h : tryF b w v p = some (p :: H)) :
    rndV b w v least p (0, []) = if cntH b (w + 2) least (p :: H) = 0 then (0, []) else (cntH b (w + 2) least (p :: H), fstH b (w + 2) least (p :: H)) := by
  unfold tryF at h
  split at h
  · next hc =>
    have hs : solF b w ((v - p * (b ^ (w + 1) + 1)) / b) = some H := by
      cases hq : solF b w ((v - p * (b ^ (w + 1) + 1)) / b) with
      | none => rw [hq] at h; cases h
      | some K => rw [hq] at h; simp at h; rw [h]
    unfold rndV
    rw [if_pos (by omega)]
    have hn := cntH_nn b w 0 H
    have hsv : srcV b w ((v - p * (b ^ (w + 1) + 1)) / b) 0 = if cntH b w 0 H = 0 then (0, []) else (cntH b w 0 H, fstH b w 0 H) := by unfold srcV; rw [hs]
    rw [hsv]
    have hc2 : cntH b (w + 2) least (p :: H) = prW b least p * cntH b w 0 H := rfl
    have hf2 : fstH b (w + 2) least (p :: H) = max least (p - (b - 1)) :: (fstH b w 0 H ++ [p - max least (p - (b - 1))]) := rfl
    rw [hc2, hf2]
    by_cases h1 : max least (p - (b - 1)) ≤ min (b - 1) p
    · have hpr : prW b least p = min (b - 1) p - max least (p - (b - 1)) + 1 := by unfold prW; rw [if_pos h1]
      rw [if_neg (by omega)]
      by_cases h2 : cntH b w 0 H = 0
      · have hz : prW b least p * cntH b w 0 H = 0 := by rw [h2, Int.mul_zero]
        rw [if_pos h2, if_neg (by simp), if_pos hz]
      · have hz : ¬ prW b least p * cntH b w 0 H = 0 := fun hc3 => by
          rcases Int.mul_eq_zero.1 hc3 with h3 | h3
          · omega
          · exact h2 h3
        rw [if_neg h2, if_pos (by show 0 < cntH b w 0 H; omega), if_neg hz, hpr, Int.mul_comm]
    · have hpr : prW b least p = 0 := by unfold prW; rw [if_neg h1]
      have hz : prW b least p * cntH b w 0 H = 0 := by rw [hpr, Int.zero_mul]
      rw [if_pos (by omega), if_pos hz]
  · cases h

theorem tryF_head {b : Int} {w : Nat} {v p : Int} {K : List Int} (h : tryF b w v p = some K) : ∃ H, K = p :: H := by
  unfold tryF at h
  split at h
  · cases hq : solF b w ((v - p * (b ^ (w + 1) + 1)) / b) with
    | none => rw [hq] at h; cases h
    | some H => rw [hq] at h; simp at h; exact ⟨H, h.symm⟩
  · cases h

/-- The search as the program makes it. -/
theorem srcV_step {b : Int} (hb : 2 ≤ b) (w : Nat) (v least : Int) (h0 : 0 ≤ v) : srcV b (w + 2) v least = rndV b w v least (v % b) (rndV b w v least (v % b + b) (0, [])) := by
  have hsound : ∀ K, (tryF b w v (v % b)).or (tryF b w v (v % b + b)) = some K → RH b (w + 2) K ∧ vlH b (w + 2) K = v := fun K hK => solF_sound hb (w + 2) v K h0 (by rw [solF_step]; exact hK)
  unfold srcV
  rw [solF_step]
  cases h1 : tryF b w v (v % b) with
  | none =>
    rw [rnd_none _ h1]
    cases h2 : tryF b w v (v % b + b) with
    | none => rw [rnd_none _ h2]; rfl
    | some K =>
      obtain ⟨H, rfl⟩ := tryF_head h2
      rw [rnd_some h2]; rfl
  | some K =>
    obtain ⟨H, rfl⟩ := tryF_head h1
    have h2 : tryF b w v (v % b + b) = none := by
      cases h2 : tryF b w v (v % b + b) with
      | none => rfl
      | some J =>
        obtain ⟨G, rfl⟩ := tryF_head h2
        have a1 := hsound _ (by rw [h1]; rfl)
        have hm0 := Int.emod_nonneg v (show b ≠ 0 by omega)
        have a2 : RH b (w + 2) ((v % b + b) :: G) ∧ vlH b (w + 2) ((v % b + b) :: G) = v := by
          unfold tryF at h2
          split at h2
          · next hc =>
            have hs : solF b w ((v - (v % b + b) * (b ^ (w + 1) + 1)) / b) = some G := by
              cases hq : solF b w ((v - (v % b + b) * (b ^ (w + 1) + 1)) / b) with
              | none => rw [hq] at h2; cases h2
              | some K => rw [hq] at h2; simp at h2; rw [h2]
            have hd : (v - (v % b + b) * (b ^ (w + 1) + 1)) % b = 0 := by
              rw [Int.sub_emod, mul_pow_mod b _ w hb, Int.add_emod_right, Int.emod_emod_of_dvd _ (Int.dvd_refl b), Int.sub_self, Int.zero_emod]
            have hdv := Int.mul_ediv_cancel' (Int.dvd_of_emod_eq_zero hd)
            have h3 := solF_sound hb w _ G (Int.ediv_nonneg hc.2 (by omega)) hs
            refine ⟨h3.1.cons (by omega) hc.1, ?_⟩
            simp only [vlH]
            rw [h3.2, hdv]; omega
          · cases h2
        have := vlH_inj hb (w + 2) _ _ a1.1 a2.1 (by rw [a1.2, a2.2])
        simp at this
        omega
    rw [rnd_none _ h2, rnd_some h1]; rfl

end Go.Proofs.Ytnggfcopndcppaa

/- from XNA -/
namespace Go.Proofs.Ytnggfcopndcppaa
set_option linter.unusedVariables false
set_option linter.unusedSimpArgs false

/-- The value of digits or sums, the least place first. -/
def vs (b : Int) : List Int → Int
  | [] => 0
  | x :: xs => x + b * vs b xs

theorem vs_snoc (b s : Int) : ∀ xs : List Int, vs b (xs ++ [s]) = vs b xs + s * b ^ xs.length
  | [] => by simp [vs]
  | x :: xs => by
    rw [List.cons_append, vs, vs_snoc b s xs, vs, List.length_cons, Int.pow_succ]
    grind

theorem vs_co (b : Int) (hb : 2 ≤ b) : ∀ (ss : List Int) (c : Int), vs b ss + c = vs b (dgA b ss c) + coA b ss c * b ^ ss.length
  | [], c => by simp [vs, dgA, coA]
  | s :: ss, c => by
    have h := vs_co b hb ss ((s + c) / b)
    have h2 := Int.mul_ediv_add_emod (s + c) b
    rw [vs, dgA, vs, coA, List.length_cons, Int.pow_succ]
    obtain ⟨q, hq⟩ : ∃ q, q = (s + c) / b := ⟨_, rfl⟩
    obtain ⟨m, hm⟩ : ∃ m, m = (s + c) % b := ⟨_, rfl⟩
    rw [← hq] at h h2 ⊢
    rw [← hm] at h2 ⊢
    grind

theorem vs_bd (b : Int) (hb : 2 ≤ b) : ∀ xs : List Int, (∀ x ∈ xs, 0 ≤ x ∧ x ≤ b - 1) → 0 ≤ vs b xs ∧ vs b xs ≤ b ^ xs.length - 1
  | [], _ => by simp [vs]
  | x :: xs, h => by
    have h1 := vs_bd b hb xs (fun y hy => h y (by simp [hy]))
    have h2 := h x (by simp)
    rw [vs, List.length_cons, Int.pow_succ]
    have a1 : 0 ≤ b * vs b xs := Int.mul_nonneg (by omega) h1.1
    have a2 : b * vs b xs ≤ b * (b ^ xs.length - 1) := Int.mul_le_mul_of_nonneg_left h1.2 (by omega)
    have a3 : b * (b ^ xs.length - 1) = b ^ xs.length * b - b := by grind
    omega

/-- Digits tell their value. -/
theorem vs_inj (b : Int) (hb : 2 ≤ b) : ∀ (xs ys : List Int) (a c : Int), xs.length = ys.length → (∀ x ∈ xs, 0 ≤ x ∧ x ≤ b - 1) → (∀ y ∈ ys, 0 ≤ y ∧ y ≤ b - 1) → vs b xs + a * b ^ xs.length = vs b ys + c * b ^ ys.length → xs = ys ∧ a = c
  | [], [], a, c, _, _, _, h => by simpa [vs] using h
  | [], y :: ys, _, _, h, _, _, _ => by simp at h
  | x :: xs, [], _, _, h, _, _, _ => by simp at h
  | x :: xs, y :: ys, a, c, hl, hx, hy, h => by
    have h1 := hx x (by simp)
    have h2 := hy y (by simp)
    rw [vs, vs, List.length_cons, List.length_cons, Int.pow_succ, Int.pow_succ] at h
    have e1 : x + b * (vs b xs + a * b ^ xs.length) = y + b * (vs b ys + c * b ^ ys.length) := by grind
    have hm : x = y := by
      have := congrArg (· % b) e1
      simp only [Int.add_mul_emod_self_left] at this
      rwa [Int.emod_eq_of_lt h1.1 (by omega), Int.emod_eq_of_lt h2.1 (by omega)] at this
    subst hm
    have e2 : vs b xs + a * b ^ xs.length = vs b ys + c * b ^ ys.length := Int.eq_of_mul_eq_mul_left (show b ≠ 0 by omega) (by omega)
    obtain ⟨e3, e4⟩ := vs_inj b hb xs ys a c (by simpa using hl) (fun z hz => hx z (by simp [hz])) (fun z hz => hy z (by simp [hz])) e2
    exact ⟨by rw [e3], e4⟩

/-- All sums of pairs, place by place (from either side). -/
def fl (w : Nat) (H : List Int) : List Int := (List.range w).map fun j => H.getD (min j (w - 1 - j)) 0
theorem fl_len (w : Nat) (H : List Int) : (fl w H).length = w := by simp [fl]
theorem fl_at (w : Nat) (H : List Int) (j : Nat) (h : j < (fl w H).length) : (fl w H)[j] = H.getD (min j (w - 1 - j)) 0 := by simp [fl]

theorem fl_step (w : Nat) (s : Int) (H : List Int) : fl (w + 2) (s :: H) = s :: (fl w H ++ [s]) := by
  apply List.ext_getElem
  · simp [fl_len]
  · intro j h1 h2
    rw [fl_at]
    rw [fl_len] at h1
    by_cases h0 : j = 0
    · subst h0; simp
    · obtain ⟨i, rfl⟩ : ∃ i, j = i + 1 := ⟨j - 1, by omega⟩
      by_cases hi : i < w
      · rw [List.getElem_cons_succ, List.getElem_append_left (by rw [fl_len]; exact hi), fl_at]
        have : min (i + 1) (w + 2 - 1 - (i + 1)) = min i (w - 1 - i) + 1 := by omega
        rw [this, List.getD_cons_succ]
      · obtain rfl : i = w := by omega
        have : min (i + 1) (i + 2 - 1 - (i + 1)) = 0 := by omega
        rw [this, List.getElem_cons_succ, List.getElem_append_right (by rw [fl_len]; omega)]
        simp [fl_len]

theorem vs_fl {b : Int} : ∀ (w : Nat) (H : List Int), RH b w H → vs b (fl w H) = vlH b w H := by
  intro w
  induction w using Nat.strongRecOn with
  | ind w ih =>
    intro H h
    match w, H, h with
    | 0, H, h => simp [fl, vs, vlH]
    | 1, [], h => have := h.len; simp at this
    | 1, s :: H, h => simp [fl, vs, vlH]
    | w + 2, [], h => have := h.len; simp at this; omega
    | w + 2, s :: H, h =>
      rw [fl_step, vs, vs_snoc, ih w (by omega) H h.tail, fl_len]
      show _ = s * (b ^ (w + 1) + 1) + b * vlH b w H
      rw [Int.pow_succ]; grind

theorem fl_all {b : Int} {w : Nat} {H : List Int} (h : ∀ s ∈ H, 0 ≤ s ∧ s ≤ 2 * b - 2) (hb : 2 ≤ b) : ∀ s ∈ fl w H, 0 ≤ s ∧ s ≤ 2 * b - 2 := by
  intro s hs
  unfold fl at hs
  rw [List.mem_map] at hs
  obtain ⟨j, _, rfl⟩ := hs
  by_cases hj : min j (w - 1 - j) < H.length
  · rw [List.getD_eq_getElem?_getD, List.getElem?_eq_getElem hj]; exact h _ (List.getElem_mem hj)
  · rw [List.getD_eq_getElem?_getD, List.getElem?_eq_none (by omega)]; simp; omega

/-- A bit of a number. -/
def bt (n j : Nat) : Int := ((n / 2 ^ j % 2 : Nat) : Int)
theorem bt_01 (n j : Nat) : 0 ≤ bt n j ∧ bt n j ≤ 1 := by unfold bt; omega
theorem bt_zero (c n : Nat) (h : c ≤ 1) : bt (c + 2 * n) 0 = (c : Int) := by unfold bt; simp; omega
theorem bt_succ (c n j : Nat) (h : c ≤ 1) : bt (c + 2 * n) (j + 1) = bt n j := by
  unfold bt
  rw [Nat.pow_succ', ← Nat.div_div_eq_div_mul, show (c + 2 * n) / 2 = n by omega]

theorem bt_make (c : Nat → Int) : ∀ (h : Nat) (o : Nat), (∀ j, 0 ≤ c j ∧ c j ≤ 1) → ∃ n, n < 2 ^ h ∧ ∀ j, j < h → bt n j = c (o + j) := by
  intro h
  induction h with
  | zero => intro o hc; exact ⟨0, by simp, fun j hj => by omega⟩
  | succ h ih =>
    intro o hc
    obtain ⟨n, h1, h2⟩ := ih (o + 1) hc
    have h0 := hc o
    refine ⟨(c o).toNat + 2 * n, by rw [Nat.pow_succ]; omega, fun j hj => ?_⟩
    cases j with
    | zero => rw [bt_zero _ _ (by omega)]; simp; omega
    | succ j => rw [bt_succ _ _ _ (by omega), h2 j (by omega)]; congr 1; omega

theorem bt_inj : ∀ (h n m : Nat), n < 2 ^ h → m < 2 ^ h → (∀ j, j < h → bt n j = bt m j) → n = m := by
  intro h
  induction h with
  | zero => intro n m hn hm _; simp at hn hm; omega
  | succ h ih =>
    intro n m hn hm hj
    rw [Nat.pow_succ] at hn hm
    have h0 := hj 0 (by omega)
    have e1 : n = n % 2 + 2 * (n / 2) := by omega
    have e2 : m = m % 2 + 2 * (m / 2) := by omega
    have h1 := ih (n / 2) (m / 2) (by omega) (by omega) (fun j hj' => by
      have := hj (j + 1) (by omega)
      rw [e1, e2, bt_succ _ _ _ (by omega), bt_succ _ _ _ (by omega)] at this
      exact this)
    rw [e1, e2, bt_zero _ _ (by omega), bt_zero _ _ (by omega)] at h0
    omega

/-- The carry into a place on the right side. -/
def ci (n : Nat) : Nat → Int
  | 0 => 0
  | j + 1 => bt n j
theorem ci_01 (n j : Nat) : 0 ≤ ci n j ∧ ci n j ≤ 1 := by cases j with | zero => simp [ci] | succ j => exact bt_01 n j

/-- The sum of a pair that its carries ask for. -/
def hs (b : Int) (g : Nat → Int) (n j : Nat) : Int := g j + b * bt n j - ci n j
def hl (b : Int) (g : Nat → Int) (w n : Nat) : List Int := (List.range ((w + 1) / 2)).map (hs b g n)
theorem hl_len (b : Int) (g : Nat → Int) (w n : Nat) : (hl b g w n).length = (w + 1) / 2 := by simp [hl]
theorem hl_at (b : Int) (g : Nat → Int) (w n j : Nat) (h : j < (w + 1) / 2) : (hl b g w n).getD j 0 = hs b g n j := by simp [hl, h]

/-- The sums at all places. -/
def ff (b : Int) (g : Nat → Int) (w n : Nat) : List Int := fl w (hl b g w n)
theorem ff_len (b : Int) (g : Nat → Int) (w n : Nat) : (ff b g w n).length = w := fl_len _ _
theorem ff_at (b : Int) (g : Nat → Int) (w n j : Nat) (h : j < w) : (ff b g w n)[j]'(by rw [ff_len]; exact h) = hs b g n (min j (w - 1 - j)) := by
  unfold ff
  rw [fl_at, hl_at _ _ _ _ _ (by omega)]

/-- The carry into a place. -/
def cc (b : Int) (g : Nat → Int) (w n j : Nat) : Int := coA b ((ff b g w n).take j) 0
theorem cc_zero (b : Int) (g : Nat → Int) (w n : Nat) : cc b g w n 0 = 0 := by simp [cc, coA]
theorem take_snocI (xs : List Int) (k : Nat) (h : k < xs.length) : xs.take (k + 1) = xs.take k ++ [xs[k]] := by
  rw [List.take_add_one, List.getElem?_eq_getElem h]; simp
theorem cc_succ (b : Int) (g : Nat → Int) (w n j : Nat) (h : j < w) : cc b g w n (j + 1) = (hs b g n (min j (w - 1 - j)) + cc b g w n j) / b := by
  unfold cc
  rw [take_snocI _ j (by rw [ff_len]; exact h), coA_snoc, ff_at b g w n j h]

theorem quo_in {b x y : Int} (hb : 2 ≤ b) (h0 : 0 ≤ x) (h1 : x ≤ b - 1) : (x + b * y) / b = y ∧ (x + b * y) % b = x := by
  constructor
  · rw [Int.add_mul_ediv_left _ _ (by omega), Int.ediv_eq_zero_of_lt h0 (by omega)]; omega
  · rw [Int.add_mul_emod_self_left, Int.emod_eq_of_lt h0 (by omega)]

/-- On the right side the carries are those chosen. -/
theorem cc_right {b : Int} {g : Nat → Int} (hb : 2 ≤ b) (w n : Nat) (hg : ∀ j, 0 ≤ g j ∧ g j ≤ b - 1) : ∀ j, j ≤ (w + 1) / 2 → cc b g w n j = ci n j := by
  intro j
  induction j with
  | zero => intro _; exact cc_zero b g w n
  | succ j ih =>
    intro hj
    rw [cc_succ b g w n j (by omega), ih (by omega), show min j (w - 1 - j) = j by omega]
    unfold hs
    rw [show g j + b * bt n j - ci n j + ci n j = g j + b * bt n j by omega]
    exact (quo_in hb (hg j).1 (hg j).2).1

/-- What is asked at a place. -/
def okP (b : Int) (g : Nat → Int) (w n j : Nat) : Bool :=
  if j < (w + 1) / 2 then decide (0 ≤ hs b g n j) && decide (hs b g n j ≤ 2 * b - 2) else decide ((hs b g n (min j (w - 1 - j)) + cc b g w n j) % b = g j)
/-- All places up to j fit. -/
def okU (b : Int) (g : Nat → Int) (w n : Nat) : Nat → Bool
  | 0 => true
  | j + 1 => okU b g w n j && okP b g w n j
theorem okU_iff (b : Int) (g : Nat → Int) (w n : Nat) : ∀ j, okU b g w n j = true ↔ ∀ i, i < j → okP b g w n i = true
  | 0 => by simp [okU]
  | j + 1 => by
    rw [okU, Bool.and_eq_true, okU_iff b g w n j]
    constructor
    · rintro ⟨h1, h2⟩ i hi
      by_cases e : i = j
      · rw [e]; exact h2
      · exact h1 i (by omega)
    · intro h; exact ⟨fun i hi => h i (by omega), h j (by omega)⟩

/-- The number n tells carries that fit. -/
def fit (b : Int) (g : Nat → Int) (w : Nat) (over : Int) (n : Nat) : Bool := okU b g w n w && decide (cc b g w n w = over)

theorem dgA_take (b : Int) : ∀ (ss : List Int) (c : Int) (j : Nat) (h : j < ss.length), (dgA b ss c)[j]'(by rw [dgA_len]; exact h) = (ss[j] + coA b (ss.take j) c) % b
  | s :: ss, c, 0, h => by simp [dgA, coA]
  | s :: ss, c, j + 1, h => by
    have := dgA_take b ss ((s + c) / b) j (by simpa using h)
    simpa [dgA, coA] using this

/-- The digits of the goal, the least place first. -/
def gl (g : Nat → Int) (w : Nat) : List Int := (List.range w).map g
theorem gl_len (g : Nat → Int) (w : Nat) : (gl g w).length = w := by simp [gl]

theorem fit_digits {b : Int} {g : Nat → Int} {w n : Nat} (hb : 2 ≤ b) (hg : ∀ j, 0 ≤ g j ∧ g j ≤ b - 1) (h : okU b g w n w = true) : RH b w (hl b g w n) ∧ dgA b (ff b g w n) 0 = gl g w := by
  rw [okU_iff] at h
  refine ⟨⟨hl_len b g w n, fun s hs' => ?_⟩, ?_⟩
  · unfold hl at hs'
    rw [List.mem_map] at hs'
    obtain ⟨j, hj, rfl⟩ := hs'
    rw [List.mem_range] at hj
    have := h j (by omega)
    unfold okP at this
    rw [if_pos hj, Bool.and_eq_true, decide_eq_true_eq, decide_eq_true_eq] at this
    exact this
  · apply List.ext_getElem
    · rw [dgA_len, ff_len, gl_len]
    · intro j h1 h2
      rw [gl_len] at h2
      rw [dgA_take b _ 0 j (by rw [ff_len]; exact h2), ff_at b g w n j h2]
      show (hs b g n (min j (w - 1 - j)) + cc b g w n j) % b = _
      have hgl : (gl g w)[j]'(by rw [gl_len]; exact h2) = g j := by simp [gl]
      rw [hgl]
      by_cases hj : j < (w + 1) / 2
      · rw [cc_right hb w n hg j (by omega), show min j (w - 1 - j) = j by omega]
        unfold hs
        rw [show g j + b * bt n j - ci n j + ci n j = g j + b * bt n j by omega]
        exact (quo_in hb (hg j).1 (hg j).2).2
      · have := h j h2
        unfold okP at this
        rw [if_neg hj, decide_eq_true_eq] at this
        exact this

/-- The value of the goal. -/
def gv' (b : Int) (g : Nat → Int) (w : Nat) (over : Int) : Int := vs b (gl g w) + over * b ^ w

theorem fit_sound {b : Int} {g : Nat → Int} {w n : Nat} {over : Int} (hb : 2 ≤ b) (hg : ∀ j, 0 ≤ g j ∧ g j ≤ b - 1) (h : fit b g w over n = true) : RH b w (hl b g w n) ∧ vlH b w (hl b g w n) = gv' b g w over := by
  unfold fit at h
  rw [Bool.and_eq_true, decide_eq_true_eq] at h
  obtain ⟨h1, h2⟩ := fit_digits hb hg h.1
  refine ⟨h1, ?_⟩
  rw [← vs_fl w _ h1]
  have h3 := vs_co b hb (ff b g w n) 0
  rw [h2, ff_len] at h3
  have h4 : coA b (ff b g w n) 0 = over := by
    have := h.2
    unfold cc at this
    rwa [List.take_of_length_le (by rw [ff_len]; exact Nat.le_refl _)] at this
  rw [h4] at h3
  unfold gv'
  show vs b (ff b g w n) = _
  omega

theorem gl_all {b : Int} {g : Nat → Int} (hg : ∀ j, 0 ≤ g j ∧ g j ≤ b - 1) (w : Nat) : ∀ x ∈ gl g w, 0 ≤ x ∧ x ≤ b - 1 := by
  intro x hx
  unfold gl at hx
  rw [List.mem_map] at hx
  obtain ⟨j, _, rfl⟩ := hx
  exact hg j

theorem fit_complete {b : Int} {g : Nat → Int} {w : Nat} {over : Int} (hb : 2 ≤ b) (hg : ∀ j, 0 ≤ g j ∧ g j ≤ b - 1) (H : List Int) (hH : RH b w H) (hv : vlH b w H = gv' b g w over) :
    ∃ n, n < 2 ^ ((w + 1) / 2) ∧ hl b g w n = H ∧ fit b g w over n = true := by
  have hall := fl_all (w := w) hH.all hb
  obtain ⟨n, hn, hbt⟩ := bt_make (fun j => coA b ((fl w H).take (j + 1)) 0) ((w + 1) / 2) 0 (fun j => coA_pos b hb _ 0 (fun s hs' => hall s (List.mem_of_mem_take hs')) (by omega) (by omega))
  have hbt' : ∀ j, j < (w + 1) / 2 → bt n j = coA b ((fl w H).take (j + 1)) 0 := fun j hj => by rw [hbt j hj, Nat.zero_add]
  have hci : ∀ j, j ≤ (w + 1) / 2 → ci n j = coA b ((fl w H).take j) 0 := by
    intro j hj
    cases j with
    | zero => simp [ci, coA]
    | succ j => exact hbt' j (by omega)
  have h3 := vs_co b hb (fl w H) 0
  rw [vs_fl w H hH, hv, fl_len] at h3
  unfold gv' at h3
  have hd := vs_inj b hb (gl g w) (dgA b (fl w H) 0) over (coA b (fl w H) 0) (by rw [gl_len, dgA_len, fl_len]) (gl_all hg w) (dgA_all b hb _ _) (by rw [gl_len, dgA_len, fl_len]; omega)
  have hdig : ∀ j (h : j < w), ((fl w H)[j]'(by rw [fl_len]; exact h) + coA b ((fl w H).take j) 0) % b = g j := by
    intro j h
    rw [← dgA_take b (fl w H) 0 j (by rw [fl_len]; exact h)]
    have : (gl g w)[j]'(by rw [gl_len]; exact h) = g j := by simp [gl]
    rw [← this]
    simp only [hd.1]
  have hhl : hl b g w n = H := by
    apply List.ext_getElem
    · rw [hl_len, hH.len]
    · intro j h1 h2
      rw [hl_len] at h1
      have e1 : (hl b g w n)[j]'(by rw [hl_len]; exact h1) = hs b g n j := by simp [hl]
      rw [e1]
      have hjw : j < w := by omega
      have e2 : (fl w H)[j]'(by rw [fl_len]; exact hjw) = H[j] := by
        rw [fl_at, show min j (w - 1 - j) = j by omega, List.getD_eq_getElem?_getD, List.getElem?_eq_getElem h2]; rfl
      have h5 := hdig j hjw
      rw [e2] at h5
      unfold hs
      rw [hbt' j h1, hci j (by omega), take_snocI _ j (by rw [fl_len]; exact hjw), coA_snoc, e2]
      have h6 := Int.mul_ediv_add_emod (H[j] + coA b ((fl w H).take j) 0) b
      rw [h5] at h6
      omega
  refine ⟨n, hn, hhl, ?_⟩
  have hff : ff b g w n = fl w H := by unfold ff; rw [hhl]
  have hcc : ∀ j, cc b g w n j = coA b ((fl w H).take j) 0 := fun j => by unfold cc; rw [hff]
  unfold fit
  rw [Bool.and_eq_true, decide_eq_true_eq, okU_iff]
  refine ⟨fun j hj => ?_, ?_⟩
  · unfold okP
    split
    · next hj2 =>
      have e1 : (hl b g w n).getD j 0 = hs b g n j := hl_at b g w n j hj2
      rw [Bool.and_eq_true, decide_eq_true_eq, decide_eq_true_eq, ← e1, hhl, List.getD_eq_getElem?_getD, List.getElem?_eq_getElem (by rw [hH.len]; exact hj2)]
      exact hH.all _ (List.getElem_mem _)
    · rw [decide_eq_true_eq, hcc j, ← ff_at b g w n j hj, ← hdig j hj]
      simp only [hff]
  · rw [hcc w, List.take_of_length_le (by rw [fl_len]; exact Nat.le_refl _)]
    exact hd.2.symm

theorem fit_same {b : Int} {g : Nat → Int} {w n m : Nat} (hb : 2 ≤ b) (hn : n < 2 ^ ((w + 1) / 2)) (hm : m < 2 ^ ((w + 1) / 2)) (h : hl b g w n = hl b g w m) : n = m := by
  refine bt_inj _ n m hn hm ?_
  intro j
  induction j using Nat.strongRecOn with
  | ind j ih =>
    intro hj
    have e := congrArg (fun l => l.getD j 0) h
    simp only [hl_at b g w n j hj, hl_at b g w m j hj] at e
    have hc : ci n j = ci m j := by
      cases j with
      | zero => rfl
      | succ j => exact ih j (by omega) (by omega)
    unfold hs at e
    rw [hc] at e
    have h2 : b * bt n j = b * bt m j := by omega
    exact Int.eq_of_mul_eq_mul_left (by omega) h2

/-- The lists found among the numbers before k. -/
def outs (b : Int) (g : Nat → Int) (w : Nat) (over : Int) : Nat → List (List Int)
  | 0 => []
  | k + 1 => if fit b g w over k = true then outs b g w over k ++ [ff b g w k] else outs b g w over k

def ways (b : Int) (w : Nat) (v : Int) : List (List Int) := match solF b w v with
  | some H => [fl w H]
  | none => []

theorem outs_all {b : Int} {g : Nat → Int} {w : Nat} {over : Int} (hb : 2 ≤ b) (hg : ∀ j, 0 ≤ g j ∧ g j ≤ b - 1) (h0 : 0 ≤ gv' b g w over) : outs b g w over (2 ^ ((w + 1) / 2)) = ways b w (gv' b g w over) := by
  unfold ways
  cases hs : solF b w (gv' b g w over) with
  | none =>
    have hno : ∀ n, fit b g w over n = false := fun n => by
      cases hf : fit b g w over n with
      | false => rfl
      | true =>
        obtain ⟨h1, h2⟩ := fit_sound hb hg hf
        have := solF_complete hb w _ h1
        rw [h2, hs] at this; cases this
    have : ∀ k, outs b g w over k = [] := by
      intro k
      induction k with
      | zero => rfl
      | succ k ih => rw [outs, hno k]; simpa using ih
    exact this _
  | some H =>
    obtain ⟨h1, h2⟩ := solF_sound hb w _ H h0 hs
    obtain ⟨n0, hn0, hh, hf⟩ := fit_complete hb hg H h1 h2
    have huniq : ∀ n, n < 2 ^ ((w + 1) / 2) → fit b g w over n = true → n = n0 := fun n hn hfn => by
      obtain ⟨a1, a2⟩ := fit_sound hb hg hfn
      exact fit_same hb hn hn0 (by rw [hh]; exact vlH_inj hb w _ _ a1 h1 (by rw [a2, h2]))
    have : ∀ k, k ≤ 2 ^ ((w + 1) / 2) → outs b g w over k = if n0 < k then [fl w H] else [] := by
      intro k
      induction k with
      | zero => intro _; simp [outs]
      | succ k ih =>
        intro hk
        rw [outs, ih (by omega)]
        by_cases e : k = n0
        · subst e
          rw [if_pos hf, if_neg (Nat.lt_irrefl _), if_pos (Nat.lt_succ_self _)]
          unfold ff; rw [hh]; rfl
        · have hfk : ¬ fit b g w over k = true := fun hc => e (huniq k (by omega) hc)
          rw [if_neg hfk]
          by_cases hlt : n0 < k
          · rw [if_pos hlt, if_pos (by omega)]
          · rw [if_neg hlt, if_neg (by omega)]
    rw [this _ (Nat.le_refl _), if_pos hn0]

end Go.Proofs.Ytnggfcopndcppaa

/- from XNB -/
namespace Go.Proofs.Ytnggfcopndcppaa
open Go.RowKit
set_option linter.unusedVariables false
set_option linter.unusedSimpArgs false
set_option maxRecDepth 100000

theorem l1Least_i (a b : Int) (w : World) : Calls Try.prog 71 #[.int .i64 a, .int .i64 b] w fun e w' => e = .returned (.int .i64 (min a b)) ∧ w = w' := by
  by_cases h : a < b
  · have hm := Lib.hid (show min a b = a by omega)
    go_enter Try.func71, Try.ntmps71
    go_wp2
    go_ret
    exact ⟨ret_int hm.out.symm, rfl⟩
  · have hm := Lib.hid (show min a b = b by omega)
    go_enter Try.func71, Try.ntmps71
    go_wp2
    go_ret
    exact ⟨ret_int hm.out.symm, rfl⟩

theorem l1Most_i (a b : Int) (w : World) : Calls Try.prog 88 #[.int .i64 a, .int .i64 b] w fun e w' => e = .returned (.int .i64 (max a b)) ∧ w = w' := by
  by_cases h : b < a
  · have hm := Lib.hid (show max a b = a by omega)
    go_enter Try.func88, Try.ntmps88
    go_wp2
    go_ret
    exact ⟨ret_int hm.out.symm, rfl⟩
  · have hm := Lib.hid (show max a b = b by omega)
    go_enter Try.func88, Try.ntmps88
    go_wp2
    go_ret
    exact ⟨ret_int hm.out.symm, rfl⟩

theorem rvPair_any (s b least : Int) (w : World) (hb : 2 ≤ b) (hb' : b ≤ 16) (hs : 0 ≤ s) (hs' : s ≤ 2 * b - 2) (hl : 0 ≤ least) (hl' : least ≤ 1) :
    Calls Try.prog 104 #[.int .i64 s, .int .i64 b, .int .i64 least] w fun e w' => e = .returned (.int .i64 (prW b least s)) ∧ w = w' := by
  have HP := Lib.hid (show max 0 (min b (min (b - 1) s + 1) - max least (s - (b - 1))) = prW b least s by unfold prW; split <;> omega)
  go_enter Try.func104, Try.ntmps104
  go_wp2
  go_loop [7, 8] (fun c x => ∃ (y z : Int), c = .int .i64 z ∧ x = .int .i64 y ∧ least ≤ y ∧ y ≤ b ∧ 0 ≤ z ∧ z ≤ 16 ∧ z ≤ y ∧ Hid (z = max 0 (min y (min (b - 1) s + 1) - max least (s - (b - 1))))) (fun _ x => (16 - intOf x).toNat)
  case atStart => exact ⟨least, 0, rfl, rfl, by omega, by omega, by omega, by omega, by omega, Lib.hid (by omega)⟩
  case round =>
    obtain ⟨y, z, rfl, rfl, y0, y1, z0, z1, z2, HZ⟩ := hrel
    by_cases hlt : y < b
    · by_cases hin : 0 ≤ s - y ∧ s - y ≤ b - 1
      · have HN := Lib.hid (show z + 1 = max 0 (min (y + 1) (min (b - 1) s + 1) - max least (s - (b - 1))) by have := HZ.out; omega)
        obtain ⟨i0, i1⟩ := hin
        go_wp2_with (go_at_call 82; refine (l1In_yes _ _ _ _ i0 i1).mono ?_; rintro e w1 ⟨rfl, rfl⟩)
        go_round
        case rel => exact ⟨y + 1, z + 1, by go_num, by go_num, by omega, by omega, by omega, by omega, by omega, HN⟩
        case measure => simp [intOf]; omega
      · have HN := Lib.hid (show z = max 0 (min (y + 1) (min (b - 1) s + 1) - max least (s - (b - 1))) by have := HZ.out; omega)
        have hno : s - y < 0 ∨ b - 1 < s - y := by omega
        clear hin
        go_wp2_with (go_at_call 82; refine (l1In_no _ _ _ _ hno).mono ?_; rintro e w1 ⟨rfl, rfl⟩)
        go_round
        case rel => exact ⟨y + 1, z, rfl, by go_num, by omega, by omega, by omega, by omega, by omega, HN⟩
        case measure => simp [intOf]; omega
    · obtain rfl : y = b := by omega
      go_wp2
      go_ret
      exact ⟨ret_int (by rw [← HP.out]; exact HZ.out), rfl⟩

theorem cnt_pair {b l : Int} {w : Nat} {H : List Int} (i : Nat) (h : i < H.length) (hw : w - 2 * i = (w - 2 * (i + 1)) + 2) : cntH b (w - 2 * i) l (H.drop i) = prW b l H[i] * cntH b (w - 2 * (i + 1)) 0 (H.drop (i + 1)) := by
  rw [hw, List.drop_eq_getElem_cons h]; rfl

theorem pow_step16 {b : Int} (hb : 2 ≤ b) (hb' : b ≤ 16) {i : Nat} (hi : i ≤ 6) : b ^ i ≤ 16777216 := by
  have h : i = 0 ∨ i = 1 ∨ i = 2 ∨ i = 3 ∨ i = 4 ∨ i = 5 ∨ i = 6 := by omega
  have hc : b = 2 ∨ b = 3 ∨ b = 4 ∨ b = 5 ∨ b = 6 ∨ b = 7 ∨ b = 8 ∨ b = 9 ∨ b = 10 ∨ b = 11 ∨ b = 12 ∨ b = 13 ∨ b = 14 ∨ b = 15 ∨ b = 16 := by omega
  rcases h with rfl | rfl | rfl | rfl | rfl | rfl | rfl <;> rcases hc with rfl | rfl | rfl | rfl | rfl | rfl | rfl | rfl | rfl | rfl | rfl | rfl | rfl | rfl | rfl <;> decide

theorem rvCount_any (g c : Nat) (b : Int) (W : Nat) (H : List Int) (B : Nat) (w : World) (h : Rd w B (.slice (some ⟨g, 0, none⟩) W c) (fl W H)) (hH : RH b W H) (hW : 1 ≤ W) (hW' : W ≤ 12) (hb : 2 ≤ b) (hb' : b ≤ 16) :
    Calls Try.prog 86 #[.slice (some ⟨g, 0, none⟩) W c, .int .i64 b] w fun e w' => e = .returned (.int .i64 (cntH b W 1 H)) ∧ w = w' := by
  have HR := Lib.hid h.at.2.2.2.2.1
  have hlen := hH.len
  have HA := Lib.hid hH.all
  obtain ⟨K, hK⟩ : ∃ K, K = W / 2 := ⟨_, rfl⟩
  have hK1 : 2 * K ≤ W := by omega
  have hK2 : W ≤ 2 * K + 1 := by omega
  have hlen2 : H.length = W - K := by omega
  have hW2 : ((W : Int) / 2) = (K : Int) := by omega
  clear hK hlen
  obtain ⟨C, hC⟩ : ∃ C, C = cntH b W 1 H := ⟨_, rfl⟩
  have HC := Lib.hid hC
  rw [← hC]
  clear h hC
  go_enter Try.func86, Try.ntmps86
  go_wp2
  go_loop [6, 7] (fun x y => ∃ (i : Nat) (z : Int), y = .int .i64 (i : Int) ∧ x = .int .i64 z ∧ i ≤ K ∧ 0 ≤ z ∧ Hid (z ≤ b ^ i) ∧ z ≤ 16777216 ∧ Hid (z * cntH b (W - 2 * i) (if i = 0 then 1 else 0) (H.drop i) = C)) (fun _ y => (12 - intOf y).toNat)
  case atStart => exact ⟨0, 1, rfl, rfl, by omega, by omega, Lib.hid (by simp), by omega, Lib.hid (by rw [HC.out, Int.one_mul]; rfl)⟩
  case round =>
    obtain ⟨i, z, rfl, rfl, hi, z0, HB, z1, HZ⟩ := hrel
    by_cases hlt : i < K
    · have hih : i < H.length := by omega
      have hcell := HR.out i (by rw [fl_len]; omega)
      obtain ⟨s, hs⟩ : ∃ s, s = H[i] := ⟨_, rfl⟩
      rw [fl_at, show min i (W - 1 - i) = i by omega, List.getD_eq_getElem?_getD, List.getElem?_eq_getElem hih, Option.getD_some, ← hs] at hcell
      obtain ⟨s0, s1⟩ := HA.out s (by rw [hs]; exact List.getElem_mem hih)
      obtain ⟨l, hl⟩ : ∃ l : Int, l = if i = 0 then 1 else 0 := ⟨_, rfl⟩
      have l0 : 0 ≤ l := by rw [hl]; split <;> omega
      have l1 : l ≤ 1 := by rw [hl]; split <;> omega
      obtain ⟨p, hp⟩ : ∃ p, p = prW b l s := ⟨_, rfl⟩
      have p0 : 0 ≤ p := by rw [hp]; exact prW_nn _ _ _
      have p1 : p ≤ b := by rw [hp]; exact prW_le b l s hb l0
      obtain ⟨q, hq⟩ : ∃ q, z * p = q := ⟨_, rfl⟩
      have q0 : 0 ≤ q := by rw [← hq]; exact Int.mul_nonneg z0 p0
      have HQ := Lib.hid (show q ≤ b ^ (i + 1) by rw [← hq, Int.pow_succ]; exact Int.mul_le_mul HB.out p1 p0 (Int.pow_nonneg (by omega)))
      have q1 : q ≤ 16777216 := Int.le_trans HQ.out (pow_step16 hb hb' (by omega))
      have HN := Lib.hid (show q * cntH b (W - 2 * (i + 1)) (if i + 1 = 0 then 1 else 0) (H.drop (i + 1)) = C by
        have h1 := HZ.out
        rw [← hl, cnt_pair i hih (by omega), ← hs, ← hp, ← Int.mul_assoc, hq] at h1
        rw [if_neg (by omega)]; exact h1)
      have HP := Lib.hid hp
      have HLL := Lib.hid hl
      clear hp hs
      by_cases hz : i = 0
      · subst hz
        have hl1 : l = 1 := hl
        subst hl1
        clear hl
        go_wp2_with (go_at_call 104; go_loud (refine (rvPair_any s b 1 _ hb hb' s0 s1 (by omega) (by omega)).mono ?_; rw [← HP.out]; rintro e w1 ⟨rfl, rfl⟩))
        go_round
        case rel => exact ⟨1, q, rfl, by go_num, by omega, q0, HQ, q1, HN⟩
        case measure => simp [intOf]
      · have hl0 : l = 0 := by rw [hl, if_neg hz]
        subst hl0
        have hbe : ((i : Int) == 0) = false := beq_no (by omega)
        clear hl
        go_wp2_with (go_at_call 104; go_loud (refine (rvPair_any s b 0 _ hb hb' s0 s1 (by omega) (by omega)).mono ?_; rw [← HP.out]; rintro e w1 ⟨rfl, rfl⟩))
        go_round
        case rel => exact ⟨i + 1, q, by go_num, by go_num, by omega, q0, HQ, q1, HN⟩
        case measure => simp [intOf]; omega
    · obtain rfl : i = K := by omega
      by_cases hodd : W = 2 * i + 1
      · have hih : i < H.length := by omega
        have hw1 : W - 2 * i = 1 := by omega
        have hm1 : (W : Int) % 2 = 1 := by omega
        have hcell := HR.out i (by rw [fl_len]; omega)
        obtain ⟨s, hs⟩ : ∃ s, s = H[i] := ⟨_, rfl⟩
        rw [fl_at, show min i (W - 1 - i) = i by omega, List.getD_eq_getElem?_getD, List.getElem?_eq_getElem hih, Option.getD_some, ← hs] at hcell
        obtain ⟨s0, s1⟩ := HA.out s (by rw [hs]; exact List.getElem_mem hih)
        have HE := Lib.hid (show z * (if s % 2 = 0 ∧ (if i = 0 then (1:Int) else 0) ≤ s / 2 then 1 else 0) = C by
          have h1 := HZ.out
          rw [hw1, List.drop_eq_getElem_cons hih, ← hs] at h1
          exact h1)
        have hi2 : 2 * i < W := by omega
        clear hs hw1 hodd
        by_cases hs2 : s % 2 = 1
        · have HF := Lib.hid (show C = 0 by rw [← HE.out, if_neg (by omega), Int.mul_zero])
          go_wp2
          go_ret
          exact ⟨ret_int HF.out.symm, rfl⟩
        · have hs3 : s % 2 = 0 := by omega
          by_cases hw : W = 1
          · obtain rfl : i = 0 := by omega
            subst hw
            by_cases hz : s = 0
            · subst hz
              have HF := Lib.hid (show C = 0 by rw [← HE.out, if_neg (by simp), Int.mul_zero])
              go_wp2
              go_ret
              exact ⟨ret_int HF.out.symm, rfl⟩
            · have hbe : (s == 0) = false := beq_no hz
              have HF := Lib.hid (show C = z by rw [← HE.out, if_pos ⟨hs3, by simp; omega⟩, Int.mul_one])
              go_wp2
              go_ret
              exact ⟨ret_int HF.out.symm, rfl⟩
          · have hbe : ((W : Int) == 1) = false := beq_no (by omega)
            have hi0 : ¬ i = 0 := by omega
            have HF := Lib.hid (show C = z by rw [← HE.out, if_pos ⟨hs3, by rw [if_neg (by omega)]; omega⟩, Int.mul_one])
            go_wp2
            go_ret
            exact ⟨ret_int HF.out.symm, rfl⟩
      · have hm1 : (W : Int) % 2 = 0 := by omega
        have HF := Lib.hid (show C = z by
          have h1 := HZ.out
          rw [show W - 2 * i = 0 by omega] at h1
          rw [← h1]; simp [cntH])
        clear hodd
        go_wp2
        go_ret
        exact ⟨ret_int HF.out.symm, rfl⟩

end Go.Proofs.Ytnggfcopndcppaa
