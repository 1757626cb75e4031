/-
  What the laws ask of perfect numbers, partners, pairs and sources: plain mathematics.
-/
import Derived.Test.Ytlpmfapjgmhbhaa8W
import Derived.Test.Ytlpmfapjgmhbhaa8O
import Derived.Test.Ytlpmfapjgmhbhaa81
import Derived.Test.Ytlpmfapjgmhbhaa0Q
import Derived.Test.Ytlpmfapjgmhbhaa0P
namespace Go.Proofs.Ytlpmfapjgmhbhaa
open Go.RowKit
set_option linter.unusedVariables false
set_option linter.unusedSimpArgs false
set_option maxRecDepth 100000

theorem prm_Z {n : Int} (h : prm n = true) : prmZ n := by
  unfold prm at h
  unfold prmZ
  exact of_decide_eq_true h

/-- Sums of divisors of the rules' numbers. -/
theorem sg_even {q : Int} {a : Nat} (ha : 1 ≤ a) (hq : prmZ q) (ho : q % 2 = 1) (h3 : 3 ≤ q) : sgL (pp (2 ^ a * q)) = sgP 2 a * (q + 1) := by
  rw [pp_two_pow ho h3 a ha, (prm_pp (by omega) hq).1]
  simp [sgL, sgP]
theorem sg_pair {u v : Int} {a : Nat} (ha : 1 ≤ a) (hu : prmZ u) (hv : prmZ v) (ou : (u * v) % 2 = 1) (h3 : 3 ≤ u) (h : u < v) : sgL (pp (2 ^ a * (u * v))) = sgP 2 a * ((u + 1) * (v + 1)) := by
  have h5 : 3 ≤ u * v := by
    have := Int.mul_le_mul h3 (show (1 : Int) ≤ v by omega) (by omega) (by omega)
    omega
  rw [pp_two_pow ou h5 a ha, pp_pair hu hv (by omega) h]
  simp [sgL, sgP]

theorem knd_zero {n : Int} (h : prop n = n) : knd n = 0 := by unfold knd; rw [if_neg (by omega), if_neg (by omega)]
theorem perfect_kind {a : Nat} {q V : Int} (ha : 1 ≤ a) (hq : prm q = true) (ho : q % 2 = 1) (h3 : 3 ≤ q) (hV : V = 2 ^ a * q) (hs : sgP 2 a * (q + 1) = 2 * V) : knd V = 0 := by
  apply knd_zero
  unfold prop
  rw [hV, sg_even ha (prm_Z hq) ho h3, hs, hV]
  omega
/-- A perfect number by the rule is perfect. -/
theorem RPerf_kind (p : Int) : RPerf p = none ∨ ∃ V, RPerf p = some V ∧ dvR knd V = some 0 := by
  by_cases h : 2 ≤ p ∧ p ≤ 15
  · obtain rfl | rfl | rfl | rfl | rfl | rfl | rfl | rfl | rfl | rfl | rfl | rfl | rfl | rfl : p = 2 ∨ p = 3 ∨ p = 4 ∨ p = 5 ∨ p = 6 ∨ p = 7 ∨ p = 8 ∨ p = 9 ∨ p = 10 ∨ p = 11 ∨ p = 12 ∨ p = 13 ∨ p = 14 ∨ p = 15 := by omega
    · rw [RPerf_2]
      by_cases c : prm 3 = true
      · rw [if_pos c]
        refine .inr ⟨6, rfl, ?_⟩
        rw [dvR_yes (by unfold Dv; omega), perfect_kind (a := 1) (q := 3) (by omega) c (by decide) (by decide) (by decide) (by decide)]
      · rw [if_neg c]; exact .inl rfl
    · rw [RPerf_3]
      by_cases c : prm 7 = true
      · rw [if_pos c]
        refine .inr ⟨28, rfl, ?_⟩
        rw [dvR_yes (by unfold Dv; omega), perfect_kind (a := 2) (q := 7) (by omega) c (by decide) (by decide) (by decide) (by decide)]
      · rw [if_neg c]; exact .inl rfl
    · rw [RPerf_4]
      by_cases c : prm 15 = true
      · rw [if_pos c]
        refine .inr ⟨120, rfl, ?_⟩
        rw [dvR_yes (by unfold Dv; omega), perfect_kind (a := 3) (q := 15) (by omega) c (by decide) (by decide) (by decide) (by decide)]
      · rw [if_neg c]; exact .inl rfl
    · rw [RPerf_5]
      by_cases c : prm 31 = true
      · rw [if_pos c]
        refine .inr ⟨496, rfl, ?_⟩
        rw [dvR_yes (by unfold Dv; omega), perfect_kind (a := 4) (q := 31) (by omega) c (by decide) (by decide) (by decide) (by decide)]
      · rw [if_neg c]; exact .inl rfl
    · rw [RPerf_6]
      by_cases c : prm 63 = true
      · rw [if_pos c]
        refine .inr ⟨2016, rfl, ?_⟩
        rw [dvR_yes (by unfold Dv; omega), perfect_kind (a := 5) (q := 63) (by omega) c (by decide) (by decide) (by decide) (by decide)]
      · rw [if_neg c]; exact .inl rfl
    · rw [RPerf_7]
      by_cases c : prm 127 = true
      · rw [if_pos c]
        refine .inr ⟨8128, rfl, ?_⟩
        rw [dvR_yes (by unfold Dv; omega), perfect_kind (a := 6) (q := 127) (by omega) c (by decide) (by decide) (by decide) (by decide)]
      · rw [if_neg c]; exact .inl rfl
    · rw [RPerf_8]
      by_cases c : prm 255 = true
      · rw [if_pos c]
        refine .inr ⟨32640, rfl, ?_⟩
        rw [dvR_yes (by unfold Dv; omega), perfect_kind (a := 7) (q := 255) (by omega) c (by decide) (by decide) (by decide) (by decide)]
      · rw [if_neg c]; exact .inl rfl
    · rw [RPerf_9]
      by_cases c : prm 511 = true
      · rw [if_pos c]
        refine .inr ⟨130816, rfl, ?_⟩
        rw [dvR_yes (by unfold Dv; omega), perfect_kind (a := 8) (q := 511) (by omega) c (by decide) (by decide) (by decide) (by decide)]
      · rw [if_neg c]; exact .inl rfl
    · rw [RPerf_10]
      by_cases c : prm 1023 = true
      · rw [if_pos c]
        refine .inr ⟨523776, rfl, ?_⟩
        rw [dvR_yes (by unfold Dv; omega), perfect_kind (a := 9) (q := 1023) (by omega) c (by decide) (by decide) (by decide) (by decide)]
      · rw [if_neg c]; exact .inl rfl
    · rw [RPerf_11]
      by_cases c : prm 2047 = true
      · rw [if_pos c]
        refine .inr ⟨2096128, rfl, ?_⟩
        rw [dvR_yes (by unfold Dv; omega), perfect_kind (a := 10) (q := 2047) (by omega) c (by decide) (by decide) (by decide) (by decide)]
      · rw [if_neg c]; exact .inl rfl
    · rw [RPerf_12]
      by_cases c : prm 4095 = true
      · rw [if_pos c]
        refine .inr ⟨8386560, rfl, ?_⟩
        rw [dvR_yes (by unfold Dv; omega), perfect_kind (a := 11) (q := 4095) (by omega) c (by decide) (by decide) (by decide) (by decide)]
      · rw [if_neg c]; exact .inl rfl
    · rw [RPerf_13]
      by_cases c : prm 8191 = true
      · rw [if_pos c]
        refine .inr ⟨33550336, rfl, ?_⟩
        rw [dvR_yes (by unfold Dv; omega), perfect_kind (a := 12) (q := 8191) (by omega) c (by decide) (by decide) (by decide) (by decide)]
      · rw [if_neg c]; exact .inl rfl
    · rw [RPerf_14]
      by_cases c : prm 16383 = true
      · rw [if_pos c]
        refine .inr ⟨134209536, rfl, ?_⟩
        rw [dvR_yes (by unfold Dv; omega), perfect_kind (a := 13) (q := 16383) (by omega) c (by decide) (by decide) (by decide) (by decide)]
      · rw [if_neg c]; exact .inl rfl
    · rw [RPerf_15]
      by_cases c : prm 32767 = true
      · rw [if_pos c]
        refine .inr ⟨536854528, rfl, ?_⟩
        rw [dvR_yes (by unfold Dv; omega), perfect_kind (a := 14) (q := 32767) (by omega) c (by decide) (by decide) (by decide) (by decide)]
      · rw [if_neg c]; exact .inl rfl
  · exact .inl (RPerf_no h)

theorem tha_partner {a b : Int} (ha : Dv a) (hb : Dv b) (hab : a ≠ b) (h1 : prop a = b) (h2 : prop b = a) : RPtn a = some b := by
  have e : ptn a = b := by
    unfold ptn
    rw [if_pos ⟨by rw [h1]; exact fun c => hab c.symm, by rw [h1]; exact hb, by rw [h1, h2]⟩, h1]
  unfold RPtn
  rw [e, if_pos ⟨ha, fun c => by have := hb.1; omega⟩]
theorem RTha_partner (k : Int) : RTha k = none ∨ ∃ a b, RTha k = some (a, b) ∧ RPtn a = some b := by
  by_cases h : 2 ≤ k ∧ k ≤ 7
  · obtain rfl | rfl | rfl | rfl | rfl | rfl : k = 2 ∨ k = 3 ∨ k = 4 ∨ k = 5 ∨ k = 6 ∨ k = 7 := by omega
    · rw [RTha_2]
      by_cases c : prm 5 = true ∧ prm 11 = true ∧ prm 71 = true
      · rw [if_pos c]
        refine .inr ⟨220, 284, rfl, ?_⟩
        have e1 : (220 : Int) = 2 ^ 2 * (5 * 11) := by decide
        have e2 : (284 : Int) = 2 ^ 2 * 71 := by decide
        have s1 : sgL (pp 220) = 504 := by rw [e1, sg_pair (by omega) (prm_Z c.1) (prm_Z c.2.1) (by decide) (by decide) (by decide)]; decide
        have s2 : sgL (pp 284) = 504 := by rw [e2, sg_even (by omega) (prm_Z c.2.2) (by decide) (by decide)]; decide
        exact tha_partner (by unfold Dv; omega) (by unfold Dv; omega) (by decide) (by unfold prop; rw [s1]; decide) (by unfold prop; rw [s2]; decide)
      · rw [if_neg c]; exact .inl rfl
    · rw [RTha_3]
      by_cases c : prm 11 = true ∧ prm 23 = true ∧ prm 287 = true
      · rw [if_pos c]
        refine .inr ⟨2024, 2296, rfl, ?_⟩
        have e1 : (2024 : Int) = 2 ^ 3 * (11 * 23) := by decide
        have e2 : (2296 : Int) = 2 ^ 3 * 287 := by decide
        have s1 : sgL (pp 2024) = 4320 := by rw [e1, sg_pair (by omega) (prm_Z c.1) (prm_Z c.2.1) (by decide) (by decide) (by decide)]; decide
        have s2 : sgL (pp 2296) = 4320 := by rw [e2, sg_even (by omega) (prm_Z c.2.2) (by decide) (by decide)]; decide
        exact tha_partner (by unfold Dv; omega) (by unfold Dv; omega) (by decide) (by unfold prop; rw [s1]; decide) (by unfold prop; rw [s2]; decide)
      · rw [if_neg c]; exact .inl rfl
    · rw [RTha_4]
      by_cases c : prm 23 = true ∧ prm 47 = true ∧ prm 1151 = true
      · rw [if_pos c]
        refine .inr ⟨17296, 18416, rfl, ?_⟩
        have e1 : (17296 : Int) = 2 ^ 4 * (23 * 47) := by decide
        have e2 : (18416 : Int) = 2 ^ 4 * 1151 := by decide
        have s1 : sgL (pp 17296) = 35712 := by rw [e1, sg_pair (by omega) (prm_Z c.1) (prm_Z c.2.1) (by decide) (by decide) (by decide)]; decide
        have s2 : sgL (pp 18416) = 35712 := by rw [e2, sg_even (by omega) (prm_Z c.2.2) (by decide) (by decide)]; decide
        exact tha_partner (by unfold Dv; omega) (by unfold Dv; omega) (by decide) (by unfold prop; rw [s1]; decide) (by unfold prop; rw [s2]; decide)
      · rw [if_neg c]; exact .inl rfl
    · rw [RTha_5]
      by_cases c : prm 47 = true ∧ prm 95 = true ∧ prm 4607 = true
      · rw [if_pos c]
        refine .inr ⟨142880, 147424, rfl, ?_⟩
        have e1 : (142880 : Int) = 2 ^ 5 * (47 * 95) := by decide
        have e2 : (147424 : Int) = 2 ^ 5 * 4607 := by decide
        have s1 : sgL (pp 142880) = 290304 := by rw [e1, sg_pair (by omega) (prm_Z c.1) (prm_Z c.2.1) (by decide) (by decide) (by decide)]; decide
        have s2 : sgL (pp 147424) = 290304 := by rw [e2, sg_even (by omega) (prm_Z c.2.2) (by decide) (by decide)]; decide
        exact tha_partner (by unfold Dv; omega) (by unfold Dv; omega) (by decide) (by unfold prop; rw [s1]; decide) (by unfold prop; rw [s2]; decide)
      · rw [if_neg c]; exact .inl rfl
    · rw [RTha_6]
      by_cases c : prm 95 = true ∧ prm 191 = true ∧ prm 18431 = true
      · rw [if_pos c]
        refine .inr ⟨1161280, 1179584, rfl, ?_⟩
        have e1 : (1161280 : Int) = 2 ^ 6 * (95 * 191) := by decide
        have e2 : (1179584 : Int) = 2 ^ 6 * 18431 := by decide
        have s1 : sgL (pp 1161280) = 2340864 := by rw [e1, sg_pair (by omega) (prm_Z c.1) (prm_Z c.2.1) (by decide) (by decide) (by decide)]; decide
        have s2 : sgL (pp 1179584) = 2340864 := by rw [e2, sg_even (by omega) (prm_Z c.2.2) (by decide) (by decide)]; decide
        exact tha_partner (by unfold Dv; omega) (by unfold Dv; omega) (by decide) (by unfold prop; rw [s1]; decide) (by unfold prop; rw [s2]; decide)
      · rw [if_neg c]; exact .inl rfl
    · rw [RTha_7]
      by_cases c : prm 191 = true ∧ prm 383 = true ∧ prm 73727 = true
      · rw [if_pos c]
        refine .inr ⟨9363584, 9437056, rfl, ?_⟩
        have e1 : (9363584 : Int) = 2 ^ 7 * (191 * 383) := by decide
        have e2 : (9437056 : Int) = 2 ^ 7 * 73727 := by decide
        have s1 : sgL (pp 9363584) = 18800640 := by rw [e1, sg_pair (by omega) (prm_Z c.1) (prm_Z c.2.1) (by decide) (by decide) (by decide)]; decide
        have s2 : sgL (pp 9437056) = 18800640 := by rw [e2, sg_even (by omega) (prm_Z c.2.2) (by decide) (by decide)]; decide
        exact tha_partner (by unfold Dv; omega) (by unfold Dv; omega) (by decide) (by unfold prop; rw [s1]; decide) (by unfold prop; rw [s2]; decide)
      · rw [if_neg c]; exact .inl rfl
  · exact .inl (RTha_no h)

/-- Pairs as they are listed. -/
theorem prs_mem : ∀ k, ∀ l ∈ prs k, ∃ a b : Int, l = [a, b] ∧ 1 ≤ a ∧ a ≤ k ∧ a < b ∧ b = ptn a
  | 0, l, h => by simp [prs] at h
  | k + 1, l, h => by
    by_cases c : ((k + 1 : Nat) : Int) < ptn ((k + 1 : Nat) : Int)
    · rw [prs_hit c] at h
      rcases List.mem_append.1 h with h | h
      · obtain ⟨a, b, e, h1, h2, h3, h4⟩ := prs_mem k l h
        exact ⟨a, b, e, h1, by omega, h3, h4⟩
      · exact ⟨_, _, List.mem_singleton.1 h, by omega, by omega, c, rfl⟩
    · rw [prs_miss c] at h
      obtain ⟨a, b, e, h1, h2, h3, h4⟩ := prs_mem k l h
      exact ⟨a, b, e, h1, by omega, h3, h4⟩
theorem prs_rise : ∀ k, (prs k).Pairwise (fun l m => l.getD 0 0 < m.getD 0 0)
  | 0 => by simp [prs]
  | k + 1 => by
    have ih := prs_rise k
    by_cases c : ((k + 1 : Nat) : Int) < ptn ((k + 1 : Nat) : Int)
    · rw [prs_hit c, List.pairwise_append]
      refine ⟨ih, by simp, fun l hl m hm => ?_⟩
      obtain ⟨a, b, e, h1, h2, h3, h4⟩ := prs_mem k l hl
      rw [List.mem_singleton.1 hm, e]
      show a < ((k + 1 : Nat) : Int)
      omega
    · rw [prs_miss c]; exact ih

/-- Sources as they are listed. -/
theorem srcTo_mem (s : Int) : ∀ k, ∀ x ∈ srcTo s k, 1 ≤ x ∧ x ≤ k ∧ prop x = s
  | 0, x, h => by simp [srcTo] at h
  | k + 1, x, h => by
    by_cases c : prop ((k + 1 : Nat) : Int) = s
    · rw [srcTo_hit c] at h
      rcases List.mem_append.1 h with h | h
      · have := srcTo_mem s k x h
        exact ⟨this.1, by omega, this.2.2⟩
      · rw [List.mem_singleton.1 h]; exact ⟨by omega, by omega, c⟩
    · rw [srcTo_miss c] at h
      have := srcTo_mem s k x h
      exact ⟨this.1, by omega, this.2.2⟩
theorem srcTo_rise (s : Int) : ∀ k, (srcTo s k).Pairwise (fun x y => x < y)
  | 0 => by simp [srcTo]
  | k + 1 => by
    have ih := srcTo_rise s k
    by_cases c : prop ((k + 1 : Nat) : Int) = s
    · rw [srcTo_hit c, List.pairwise_append]
      refine ⟨ih, by simp, fun x hx y hy => ?_⟩
      have := srcTo_mem s k x hx
      rw [List.mem_singleton.1 hy]
      omega
    · rw [srcTo_miss c]; exact ih
theorem srcTo_more {n : Nat} (h2 : 2 ≤ n) (h100 : n ≤ 100) : ∀ k, upTo n ≤ k → srcTo (n : Int) k = srcAll n := by
  intro k
  induction k with
  | zero =>
    intro h
    have := upTo_pos h2 h100
    omega
  | succ k ih =>
    intro h
    by_cases e : upTo n = k + 1
    · unfold srcAll; rw [e]
    · have hno : ¬ prop ((k + 1 : Nat) : Int) = (n : Int) := fun c => by
        have h1 := src_bd (x := ((k + 1 : Nat) : Int)) (by omega) c (by omega)
        have h3 := upTo_int h100
        omega
      rw [srcTo_miss hno]
      exact ih (by omega)
theorem upTo_mono {n m : Nat} (h : n ≤ m) (h2 : 2 ≤ n) (hm : m ≤ 100) : upTo n ≤ upTo m := by
  have a := upTo_int (m := n) (by omega)
  have b := upTo_int hm
  have := Int.mul_le_mul (show (n : Int) - 1 ≤ (m : Int) - 1 by omega) (show (n : Int) - 1 ≤ (m : Int) - 1 by omega) (by omega) (by omega)
  omega
theorem nsr_mem (N : Nat) : ∀ j, ∀ x : Int, x ∈ nsr N j ↔ ∃ i : Nat, i < j ∧ x = ((i + 2 : Nat) : Int) ∧ (srcTo ((i + 2 : Nat) : Int) N).length = 0
  | 0, x => by simp [nsr]
  | j + 1, x => by
    have ih := nsr_mem N j x
    by_cases c : (srcTo ((j + 2 : Nat) : Int) N).length = 0
    · rw [nsr_hit c, List.mem_append, List.mem_singleton, ih]
      constructor
      · rintro (⟨i, h1, h2, h3⟩ | h)
        · exact ⟨i, by omega, h2, h3⟩
        · exact ⟨j, by omega, h, c⟩
      · rintro ⟨i, h1, h2, h3⟩
        by_cases e : i = j
        · subst e; exact .inr h2
        · exact .inl ⟨i, by omega, h2, h3⟩
    · rw [nsr_miss c, ih]
      constructor
      · rintro ⟨i, h1, h2, h3⟩; exact ⟨i, by omega, h2, h3⟩
      · rintro ⟨i, h1, h2, h3⟩
        by_cases e : i = j
        · subst e; exact absurd h3 c
        · exact ⟨i, by omega, h2, h3⟩
/-- A number is missing among the sums exactly if it has no sources. -/
theorem miss_iff {n m : Nat} (h2 : 2 ≤ n) (hnm : n ≤ m) (hm : m ≤ 100) : (n : Int) ∈ nsr (upTo m) (m - 1) ↔ (srcAll n).length = 0 := by
  have e := srcTo_more h2 (by omega) (upTo m) (upTo_mono hnm h2 hm)
  rw [nsr_mem]
  constructor
  · rintro ⟨i, h1, h3, h4⟩
    obtain rfl : n = i + 2 := by omega
    rw [← e]; exact h4
  · intro h
    refine ⟨n - 2, by omega, by omega, ?_⟩
    rw [show n - 2 + 2 = n by omega, e]; exact h

end Go.Proofs.Ytlpmfapjgmhbhaa
