/-
  The sources of a value: sourcesOf.
-/
import Derived.Test.YtamibonkbpppmaaN1
import Derived.Test.YtamibonkbpppmaaT2
namespace Go.Proofs.Ytamibonkbpppmaa
open Go.RowKit
set_option linter.unusedVariables false
set_option linter.unusedSimpArgs false
set_option maxRecDepth 100000

theorem pow_le13 {b : Int} (hb : 2 ≤ b) (hb' : b ≤ 16) {n : Nat} (hn : n ≤ 12) : 1 ≤ b ^ n ∧ b ^ n ≤ 281474976710656 := by
  obtain ⟨B, rfl⟩ : ∃ B : Nat, b = B := ⟨b.toNat, by omega⟩
  have h1 : B ^ n ≤ 16 ^ n := Nat.pow_le_pow_left (by omega) n
  have h2 : 16 ^ n ≤ 16 ^ 12 := Nat.pow_le_pow_right (by omega) hn
  have h3 : 1 ≤ B ^ n := Nat.pos_of_ne_zero (fun h => by have := Nat.pow_eq_zero.1 h; omega)
  have h4 : (16 : Nat) ^ 12 = 281474976710656 := by decide
  have h5 : ((B : Int)) ^ n = ((B ^ n : Nat) : Int) := by push_cast; rfl
  rw [h5]; omega

/-- The answer behind j pairs tried. -/
def restV (b : Int) (w : Nat) (v least : Int) (j : Nat) : Int × List Int :=
  if j = 0 then rndV b w v least (v % b) (rndV b w v least (v % b + b) (0, [])) else if j = 1 then rndV b w v least (v % b + b) (0, []) else (0, [])
theorem restV_0 {b : Int} (hb : 2 ≤ b) (w : Nat) (v least : Int) (h0 : 0 ≤ v) : srcV b (w + 2) v least = restV b w v least 0 := by
  unfold restV; rw [if_pos rfl]; exact srcV_step hb w v least h0
theorem restV_step (b : Int) (w : Nat) (v least : Int) (j : Nat) (hb : 2 ≤ b) (hj : v % b + (j : Int) * b ≤ 2 * (b - 1)) : j ≤ 1 ∧ restV b w v least j = rndV b w v least (v % b + (j : Int) * b) (restV b w v least (j + 1)) := by
  have h1 : 0 ≤ v % b := Int.emod_nonneg v (by omega)
  have hj1 : j ≤ 1 := by
    by_cases h : 2 ≤ j
    · have : (2 : Int) * b ≤ (j : Int) * b := Int.mul_le_mul_of_nonneg_right (by omega) (by omega)
      omega
    · omega
  refine ⟨hj1, ?_⟩
  have : j = 0 ∨ j = 1 := by omega
  rcases this with rfl | rfl <;> simp [restV]
theorem restV_end (b : Int) (w : Nat) (v least : Int) (j : Nat) (hb : 2 ≤ b) (hj2 : j ≤ 2) (hj : 2 * (b - 1) < v % b + (j : Int) * b) : restV b w v least j = (0, []) := by
  have : j = 0 ∨ j = 1 ∨ j = 2 := by omega
  have h2 : v % b < b := Int.emod_lt_of_pos v (by omega)
  rcases this with rfl | rfl | rfl
  · simp at hj; omega
  · show rndV b w v least (v % b + b) (0, []) = (0, [])
    unfold rndV
    rw [if_neg (by simp at hj; omega)]
  · rfl
theorem srcV_le {b : Int} (hb : 2 ≤ b) (hb' : b ≤ 16) {w : Nat} (hw : w ≤ 12) (v least : Int) (hl : 0 ≤ least) : (srcV b w v least).1 ≤ 281474976710656 := by
  have hp := (pow_le13 hb hb' (show (w + 1) / 2 ≤ 12 by omega)).2
  unfold srcV
  split
  · split
    · simp
    · have := cntH_le b hb w least ‹_› hl
      simp only; omega
  · simp
theorem srcV_nil {b : Int} {w : Nat} {v least : Int} (h : (srcV b w v least).1 = 0) : (srcV b w v least).2 = [] := by
  unfold srcV at h ⊢
  split
  · split
    · rfl
    · next h1 h2 => rw [h1] at h; simp only at h; rw [if_neg h2] at h; exact absurd h h2
  · rfl

end Go.Proofs.Ytamibonkbpppmaa
