/-
  Periods of fractions: what the law asks, plain; the greatest common divisor that the law reckons.
-/
import Derived.Test.Ytgiabadkbfbilab9E
import Derived.Test.Ytgiabadkbfbilab05
namespace Go.Proofs.Ytgiabadkbfbilab
open Go.RowKit
set_option linter.unusedVariables false
set_option linter.unusedSimpArgs false
set_option maxRecDepth 100000

theorem dig_again {a n b i : Nat} (hb : 0 < b) (hn : 0 < n) (ha : a < n) (hi : pB a n b ≤ i) : it (mb b n) (i + pA a n b) a = it (mb b n) i a := by
  obtain ⟨e1, e2⟩ := period_all hb hn ha
  have h := (late_back (mb_into (b := b) hn) ha).1
  rw [e1, e2] at h
  obtain ⟨c, rfl⟩ : ∃ c, i = pB a n b + c := ⟨i - pB a n b, by omega⟩
  rw [show pB a n b + c + pA a n b = c + (pB a n b + pA a n b) by omega, it_add, h, ← it_add, Nat.add_comm c]
theorem fdg_get {a n b k i : Nat} (h : i < k) : (fdg a n b k).getD i 0 = ((it (mb b n) i a * b / n : Nat) : Int) := by
  unfold fdg lst
  rw [List.getD_eq_getElem?_getD]
  simp [h]
theorem rpt_get {a n b j : Nat} (h : j < pA a n b) : (rpt a n b).getD j 0 = ((it (mb b n) (pB a n b + j) a * b / n : Nat) : Int) := by
  unfold rpt
  rw [List.getD_eq_getElem?_getD, List.getElem?_drop, ← List.getD_eq_getElem?_getD]
  exact fdg_get (by omega)
theorem per_coprime {a n b : Nat} (hn : 0 < n) (hg : Nat.gcd b n = 1) (ha : Nat.gcd a n = 1) : pB a n b = 0 ∧ pA a n b = ordN b n := by
  unfold pB pA
  have h : ¬ 1 < Nat.gcd n b := by rw [Nat.gcd_comm, hg]; omega
  rw [ha, Nat.div_one, rdC_end h, rdR_end h]
  exact ⟨rfl, rfl⟩
theorem mb_less {b n x : Nat} : x * (b % n) % n = mb b n x := by unfold mb; rw [Nat.mul_mod_mod]
theorem dig_lt {n b x : Nat} (hn : 0 < n) (hb : 0 < b) (hx : x < n) : x * b / n < b := by
  rw [Nat.div_lt_iff_lt_mul hn, Nat.mul_comm b n]
  exact Nat.mul_lt_mul_of_lt_of_le hx (Nat.le_refl b) hb

theorem sl_lies {w : World} {v : Value} {xs : List Int} (h : Sl w v xs) (h0 : 0 < xs.length) : ∃ b o cap, v = .slice (some ⟨b, o, none⟩) xs.length cap ∧ b < w.heap.size ∧ ∀ j, j < xs.length → w.cell? ⟨b, o + j, none⟩ = some (.int .i64 (xs.getD j 0)) := by
  obtain ⟨a, cap, rfl, hx⟩ := h
  rcases hx with hx | ⟨b, off, rfl, hbl, hc⟩
  · rw [hx] at h0; simp at h0
  · refine ⟨b, off, cap, rfl, hbl, fun j hj => ?_⟩
    rw [hc j hj, List.getD_eq_getElem?_getD, List.getElem?_eq_getElem hj]
    rfl
theorem ord_at {n b : Nat} (hb : 2 ≤ b) (hb' : b ≤ 16) (hn : 0 < n) (hn2 : n ≤ 2000) : ROrd (n : Int) (b : Int) = if Nat.gcd b n = 1 then some ((ordN b n : Nat) : Int) else none := by
  unfold ROrd
  by_cases h : Nat.gcd b n = 1
  · rw [if_pos h, if_pos ⟨⟨by omega, by omega⟩, ⟨by omega, by omega⟩, by simpa using h⟩]
    rfl
  · rw [if_neg h, if_neg (fun c => h (by simpa using c.2.2))]
theorem per_at {a n b : Nat} (hb : 2 ≤ b) (hb' : b ≤ 16) (hn : 0 < n) (hn2 : n ≤ 2000) (ha : a < n) : RPer (a : Int) (n : Int) (b : Int) = some (((pB a n b : Nat) : Int), ((pA a n b : Nat) : Int)) := by
  unfold RPer
  rw [if_pos ⟨⟨by omega, by omega⟩, ⟨by omega, by omega⟩, by omega, by omega⟩]
  rfl
end Go.Proofs.Ytgiabadkbfbilab
