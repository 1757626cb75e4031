/-
  Cyclic numbers: what the law asks, plain.
-/
import Derived.Test.Ytgiabadkbfbilab4P
import Derived.Test.Ytgiabadkbfbilab9H
namespace Go.Proofs.Ytgiabadkbfbilab
open Go.RowKit
set_option linter.unusedVariables false
set_option linter.unusedSimpArgs false
set_option maxRecDepth 100000

theorem one_modC {P : Nat} (hP : 2 ≤ P) : 1 % P = 1 := Nat.mod_eq_of_lt (by omega)
/-- Half a round is the number less by one. -/
theorem half_neg {b P h : Nat} (hp : prm (P : Int) = true) (hP : 2 ≤ P) (hg : Nat.gcd b P = 1) (ho : ordN b P = 2 * h) : b ^ h % P = P - 1 := by
  obtain ⟨o1, o2, o3, o4⟩ := ord_spec hg (show 0 < P by omega)
  rw [ho] at o1 o3 o4
  rw [it_one (by omega), one_modC hP] at o3
  have h4 := o4 h (by omega) (by omega)
  rw [it_one (by omega), one_modC hP] at h4
  obtain ⟨c, hc⟩ : ∃ c, c = b ^ h % P := ⟨_, rfl⟩
  have hcP : c < P := by rw [hc]; exact Nat.mod_lt _ (by omega)
  have hsq : c * c % P = 1 := by
    rw [hc, ← Nat.mul_mod, ← Nat.pow_add, show h + h = 2 * h by omega]
    exact o3
  rw [← hc] at h4 ⊢
  have hc0 : c ≠ 0 := by
    intro e
    rw [e] at hsq
    simp at hsq
  obtain ⟨d, rfl⟩ : ∃ d, c = d + 1 := ⟨c - 1, by omega⟩
  have hdvd : P ∣ d * (d + 2) := by
    have e : (d + 1) * (d + 1) = d * (d + 2) + 1 := by
      simp only [Nat.add_mul, Nat.mul_add, Nat.mul_one, Nat.one_mul]; omega
    rw [e] at hsq
    have h5 := Nat.div_add_mod (d * (d + 2) + 1) P
    rw [hsq] at h5
    generalize (d * (d + 2) + 1) / P = q at h5
    exact ⟨q, by omega⟩
  have hcop : Nat.gcd d P = 1 := by
    rcases prm_gcd (B := d) hp (by omega) with h6 | h6
    · exact h6
    · rw [Nat.mod_eq_of_lt (by omega)] at h6
      omega
  have h7 : P ∣ d + 2 := Nat.Coprime.dvd_of_dvd_mul_left (Nat.Coprime.symm hcop) hdvd
  obtain ⟨q, hq⟩ := h7
  have hq1 : q = 1 := by
    rcases Nat.lt_trichotomy q 1 with h8 | h8 | h8
    · have : q = 0 := by omega
      rw [this] at hq; omega
    · exact h8
    · have := Nat.mul_le_mul_left P (show 2 ≤ q by omega)
      omega
  rw [hq1] at hq
  omega
theorem it_posC {a b P : Nat} (hP : 2 ≤ P) (hg : Nat.gcd b P = 1) (ha : Nat.gcd a P = 1) (haP : a < P) (k : Nat) : 0 < it (mb b P) k a := by
  rw [it_mb haP]
  have h1 : Nat.gcd (b ^ k) P = 1 := Nat.Coprime.pow_left k hg
  have h2 : Nat.gcd (a * b ^ k) P = 1 := Nat.Coprime.mul_left ha h1
  by_cases h3 : a * b ^ k % P = 0
  · have h4 : Nat.gcd (a * b ^ k) P = P := Nat.gcd_eq_right (Nat.dvd_of_mod_eq_zero h3)
    omega
  · omega
theorem pair_sum {r b P : Nat} (h0 : 0 < r * b % P) (hr : r < P) : r * b / P + (P - r) * b / P + 1 = b := by
  obtain ⟨q, hq⟩ : ∃ q, q = r * b / P := ⟨_, rfl⟩
  obtain ⟨s, hs⟩ : ∃ s, s = r * b % P := ⟨_, rfl⟩
  have h1 := Nat.div_add_mod (r * b) P
  have hsP : s < P := by rw [hs]; exact Nat.mod_lt _ (by omega)
  rw [← hq, ← hs] at h1
  rw [← hs] at h0
  have hb : 0 < b := by
    rcases Nat.eq_zero_or_pos b with h | h
    · rw [h, Nat.mul_zero] at h1; omega
    · exact h
  have hqb : q < b := by
    rw [hq, Nat.div_lt_iff_lt_mul (by omega), Nat.mul_comm b P]
    exact Nat.mul_lt_mul_of_lt_of_le hr (Nat.le_refl b) hb
  have h2 : (P - r) * b = P * (b - q - 1) + (P - s) := by
    have e1 : (P - r) * b + r * b = P * b := by rw [← Nat.add_mul, show P - r + r = P by omega]
    have e2 : P * (b - q - 1) + P * q + P = P * b := by
      rw [← Nat.mul_add]
      have : P * (b - q - 1 + q) + P * 1 = P * b := by rw [← Nat.mul_add]; congr 1; omega
      omega
    omega
  have h3 : (P - r) * b / P = b - q - 1 := by
    rw [h2, Nat.mul_add_div (by omega), Nat.div_eq_of_lt (by omega), Nat.add_zero]
  rw [← hq, h3]
  omega

/-- What the law asks of halves: a repetend of 2 h digits. -/
structure HalF (a p b h : Nat) : Prop where
  per : pA a p b = 2 * h
  sum : ∀ i, i < h → ∃ x y : Nat, (rpt a p b).getD i 0 = (x : Int) ∧ (rpt a p b).getD (h + i) 0 = (y : Int) ∧ x + y + 1 = b ∧ x ≤ 16 ∧ y ≤ 16
theorem hal_facts {a p b : Nat} (hb : 2 ≤ b) (hb' : b ≤ 16) (hp : prm (p : Int) = true) (hp2 : 2 ≤ p) (ha : a < p) (ha0 : a ≠ 0) (hbp : b % p ≠ 0) (hev : pA a p b % 2 = 0) : HalF a p b (pA a p b / 2) := by
  have hg : Nat.gcd b p = 1 := (prm_gcd (B := b) hp (by omega)).resolve_right hbp
  have hga : Nat.gcd a p = 1 := (prm_gcd (B := a) hp (by omega)).resolve_right (by rw [Nat.mod_eq_of_lt ha]; exact ha0)
  obtain ⟨e1, e2⟩ := per_coprime (show 0 < p by omega) hg hga
  have hh : pA a p b = 2 * (pA a p b / 2) := by omega
  refine ⟨hh, fun i hi => ?_⟩
  have hn := half_neg hp hp2 hg (e2.symm.trans hh)
  obtain ⟨h, hhd⟩ : ∃ h, h = pA a p b / 2 := ⟨_, rfl⟩
  rw [← hhd] at hi hn hh ⊢
  have hpos := it_posC hp2 hg hga ha i
  have hlt := it_lt (mb_into (b := b) (show 0 < p by omega)) i ha
  have hpos1 := it_posC hp2 hg hga ha (i + 1)
  obtain ⟨r, hr⟩ : ∃ r, r = it (mb b p) i a := ⟨_, rfl⟩
  have hr1 : it (mb b p) (i + 1) a = r * b % p := by rw [hr]; rfl
  rw [hr1] at hpos1
  rw [← hr] at hpos hlt
  have hr2 : it (mb b p) (h + i) a = p - r := by
    rw [it_add, ← hr, it_mb hlt, Nat.mul_mod, hn, Nat.mod_eq_of_lt hlt]
    have e : r * (p - 1) = p * (r - 1) + (p - r) := by
      obtain ⟨t, rfl⟩ : ∃ t, r = t + 1 := ⟨r - 1, by omega⟩
      obtain ⟨u, rfl⟩ : ∃ u, p = u + 1 := ⟨p - 1, by omega⟩
      simp only [Nat.add_sub_cancel]
      rw [Nat.add_mul, Nat.add_mul, Nat.mul_comm u t]
      omega
    rw [e, Nat.mul_add_mod, Nat.mod_eq_of_lt (by omega)]
  have g1 := rpt_get (a := a) (n := p) (b := b) (j := i) (by omega)
  have g2 := rpt_get (a := a) (n := p) (b := b) (j := h + i) (by omega)
  rw [e1, Nat.zero_add] at g1 g2
  rw [hr2] at g2
  rw [← hr] at g1
  have hs := pair_sum hpos1 hlt
  generalize r * b / p = x at g1 hs
  generalize (p - r) * b / p = y at g2 hs
  exact ⟨_, _, g1, g2, hs, by omega, by omega⟩

/-! Turns. -/
theorem trn_get {b p : Nat} (hg : Nat.gcd b p = 1) (hp : 2 ≤ p) (ho : ordN b p + 1 = p) : ∀ k, k ≤ p - 1 → ∀ j, j < k → (trnL b p k).getD (it (mb b p) j 1 - 1) 0 = (j : Int)
  | 0, _, j, h => by omega
  | k + 1, hk, j, h => by
    have hi1 := it_ne hg hp j
    have hi2 := it_ne hg hp k
    have hlt := it_lt (mb_into (b := b) (show 0 < p by omega)) k (show 1 < p by omega)
    rw [trnL, List.getD_eq_getElem?_getD, List.getElem?_set]
    by_cases hjk : j = k
    · subst hjk
      rw [if_pos rfl, if_pos (by rw [trnL_len]; omega)]
      rfl
    · have hne : it (mb b p) j 1 ≠ it (mb b p) k 1 := by
        have hc := cyc_cop (b := b) hg (show 0 < p by omega) (show 1 < p by omega)
        have hper : per (mb b p) p 1 = ordN b p := by unfold ordN; rw [one_modC hp]
        exact per_inj (mb_into (by omega)) hc (by omega) (by rw [hper]; omega)
      rw [if_neg (by omega), ← List.getD_eq_getElem?_getD]
      exact trn_get hg hp ho k (by omega) j (by omega)
theorem orbit_all {b p x : Nat} (hg : Nat.gcd b p = 1) (hp : 2 ≤ p) (ho : ordN b p + 1 = p) (hx : 1 ≤ x) (hxp : x < p) : ∃ k, k < p - 1 ∧ it (mb b p) k 1 = x := by
  by_cases h : ∃ k, k < p - 1 ∧ it (mb b p) k 1 = x
  · exact h
  · exfalso
    have hno : ∀ k, k < p - 1 → it (mb b p) k 1 ≠ x := fun k hk e => h ⟨k, hk, e⟩
    have hlt := fun k => it_lt (mb_into (b := b) (show 0 < p by omega)) k (show 1 < p by omega)
    have hpos := it_ne hg hp
    obtain ⟨i, j, hij, hj, he⟩ := pigeon (p - 2) (fun k => if it (mb b p) k 1 < x then it (mb b p) k 1 - 1 else it (mb b p) k 1 - 2) (fun k hk => by
      have h1 := hno k (by omega)
      have h2 := hlt k
      have h3 := hpos k
      split <;> omega)
    have h1 := hno i (by omega)
    have h2 := hno j (by omega)
    have h3 := hpos i
    have h4 := hpos j
    have hne : it (mb b p) i 1 ≠ it (mb b p) j 1 := by
      have hc := cyc_cop (b := b) hg (show 0 < p by omega) (show 1 < p by omega)
      have hper : per (mb b p) p 1 = ordN b p := by unfold ordN; rw [one_modC hp]
      exact per_inj (mb_into (by omega)) hc hij (by rw [hper]; omega)
    split at he <;> split at he <;> omega
/-- What the law asks of turns: q - 1 of them. -/
structure TrnF (q b : Nat) : Prop where
  turn : ∀ i, i < q - 1 → ∃ y : Nat, (trnL b q (q - 1)).getD i 0 = (y : Int) ∧ y < q - 1 ∧ ∀ k, k < q - 1 → ∃ d : Nat, (rpt (i + 1) q b).getD k 0 = (d : Int) ∧ (rpt 1 q b).getD ((k + y) % (q - 1)) 0 = (d : Int)
  frc : ∀ i, i < q - 1 → Frc ((i : Int) + 1) (q : Int) (b : Int)
  per : ∀ i, i < q - 1 → pA (i + 1) q b = q - 1
theorem trn_facts {q b : Nat} (h : FulR (q : Int) (b : Int)) : 2 ≤ q ∧ q ≤ 300 ∧ TrnF q b := by
  obtain ⟨h1, h2, ⟨b0, b1⟩, h4, h5, h6⟩ := h
  have hq : 2 ≤ q := by omega
  have hg : Nat.gcd b q = 1 := by simpa using h5
  have ho : ordN b q + 1 = q := by simpa using h6
  have hcop : ∀ i, i < q - 1 → Nat.gcd (i + 1) q = 1 := fun i hi => (prm_gcd (B := i + 1) h4 (by omega)).resolve_right (by rw [Nat.mod_eq_of_lt (by omega)]; omega)
  have hpp : ∀ i, i < q - 1 → pB (i + 1) q b = 0 ∧ pA (i + 1) q b = q - 1 := fun i hi => by
    obtain ⟨e1, e2⟩ := per_coprime (show 0 < q by omega) hg (hcop i hi)
    exact ⟨e1, by omega⟩
  refine ⟨hq, by omega, fun i hi => ?_, fun i hi => ⟨⟨b0, b1⟩, ⟨by omega, by omega⟩, by omega, by omega⟩, fun i hi => (hpp i hi).2⟩
  obtain ⟨y, hy1, hy2⟩ := orbit_all hg hq ho (show 1 ≤ i + 1 by omega) (show i + 1 < q by omega)
  have ht := trn_get hg hq ho (q - 1) (Nat.le_refl _) y hy1
  rw [hy2, Nat.add_sub_cancel] at ht
  refine ⟨y, ht, hy1, fun k hk => ?_⟩
  obtain ⟨p1, p2⟩ := hpp i hi
  have g1 := rpt_get (a := i + 1) (n := q) (b := b) (j := k) (by omega)
  rw [p1, Nat.zero_add, ← hy2, ← it_add] at g1
  obtain ⟨q1, q2⟩ := hpp 0 (by omega)
  have hmod : (k + y) % (q - 1) < q - 1 := Nat.mod_lt _ (by omega)
  have g2 := rpt_get (a := 1) (n := q) (b := b) (j := (k + y) % (q - 1)) (by rw [show 1 = 0 + 1 from rfl, q2]; exact hmod)
  rw [show pB 1 q b = 0 from q1, Nat.zero_add] at g2
  have hone : it (mb b q) (q - 1) 1 = 1 := by
    have := (ord_spec hg (show 0 < q by omega)).2.2.1
    rw [one_modC hq] at this
    rw [show q - 1 = ordN b q by omega]
    exact this
  rw [← it_mod hone] at g2
  rw [hy2] at g1
  exact ⟨_, g1, g2⟩
theorem fp_mem {b : Int} {m : Nat} {j : Nat} (hj : j < (fpL b m).length) : ∃ r : Nat, (fpL b m).getD j 0 = (r : Int) ∧ FulR (r : Int) b := by
  have h : (fpL b m).getD j 0 ∈ fpL b m := by
    rw [List.getD_eq_getElem?_getD, List.getElem?_eq_getElem hj]
    exact List.getElem_mem hj
  unfold fpL at h ⊢
  obtain ⟨r, hr, e⟩ := List.mem_map.1 h
  exact ⟨r, e.symm, of_decide_eq_true (List.mem_filter.1 hr).2⟩
end Go.Proofs.Ytgiabadkbfbilab
