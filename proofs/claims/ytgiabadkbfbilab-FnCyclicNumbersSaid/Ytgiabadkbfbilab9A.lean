/-
  Remainders step by step (times the base, by n): orders and periods. Plain.
-/
import Derived.Test.YtgiabadkbfbilabPA
namespace Go.Proofs.Ytgiabadkbfbilab
set_option linter.unusedVariables false
set_option linter.unusedSimpArgs false

/-- What is left behind the next digit. -/
def mb (b n x : Nat) : Nat := x * b % n
theorem mb_into {b n : Nat} (hn : 0 < n) : Into (mb b n) n := fun j _ => Nat.mod_lt _ hn

theorem dvd_sub_mod {x y n : Nat} (h : x % n = y % n) : n ∣ y - x := Nat.dvd_of_mod_eq_zero (Nat.sub_mod_eq_zero_of_mod_eq h.symm)

theorem mb_inj_le {b n x y : Nat} (hg : Nat.gcd b n = 1) (hxy : x ≤ y) (hy : y < n) (h : mb b n x = mb b n y) : x = y := by
  have hd := dvd_sub_mod (show x * b % n = y * b % n from h)
  rw [← Nat.sub_mul] at hd
  have hc : Nat.Coprime n b := by rw [Nat.Coprime, Nat.gcd_comm]; exact hg
  have hd2 := Nat.Coprime.dvd_of_dvd_mul_right hc hd
  have := Nat.eq_zero_of_dvd_of_lt hd2 (by omega)
  omega
theorem mb_inj {b n x y : Nat} (hg : Nat.gcd b n = 1) (hx : x < n) (hy : y < n) (h : mb b n x = mb b n y) : x = y := by
  by_cases hle : x ≤ y
  · exact mb_inj_le hg hle hy h
  · exact (mb_inj_le hg (by omega) hx h.symm).symm

theorem it_cancel {b n : Nat} (hg : Nat.gcd b n = 1) (hn : 0 < n) {x : Nat} (hx : x < n) (p : Nat) : ∀ i, it (mb b n) i x = it (mb b n) (i + p) x → x = it (mb b n) p x
  | 0, h => by rw [Nat.zero_add] at h; exact h
  | i + 1, h => by
    rw [show i + 1 + p = (i + p) + 1 by omega] at h
    exact it_cancel hg hn hx p i (mb_inj hg (it_lt (mb_into hn) i hx) (it_lt (mb_into hn) (i + p) hx) h)

theorem cyc_cop {b n x : Nat} (hg : Nat.gcd b n = 1) (hn : 0 < n) (hx : x < n) : cyc (mb b n) n x = true := by
  obtain ⟨i, j, h1, h2, h3⟩ := pigeon n (fun i => it (mb b n) i x) (fun i _ => it_lt (mb_into hn) i hx)
  have h3' : it (mb b n) i x = it (mb b n) j x := h3
  have := it_cancel hg hn hx (j - i) i (by rw [show i + (j - i) = j by omega]; exact h3')
  exact cyc_of_per (mb_into hn) hx (show 1 ≤ j - i by omega) this.symm

theorem it_mb {b n x : Nat} (hx : x < n) : ∀ k, it (mb b n) k x = x * b ^ k % n
  | 0 => by rw [it, Nat.pow_zero, Nat.mul_one, Nat.mod_eq_of_lt hx]
  | k + 1 => by rw [it, it_mb hx k, mb, Nat.mod_mul_mod, Nat.pow_succ, Nat.mul_assoc]

theorem it_one {b n : Nat} (hn : 0 < n) (k : Nat) : it (mb b n) k (1 % n) = b ^ k % n := by
  rw [it_mb (Nat.mod_lt _ hn), Nat.mod_mul_mod, Nat.one_mul]

/-- The order of a base by n. -/
def ordN (b n : Nat) : Nat := per (mb b n) n (1 % n)
theorem ord_spec {b n : Nat} (hg : Nat.gcd b n = 1) (hn : 0 < n) : 1 ≤ ordN b n ∧ ordN b n ≤ n ∧ it (mb b n) (ordN b n) (1 % n) = 1 % n ∧ ∀ j, 1 ≤ j → j < ordN b n → it (mb b n) j (1 % n) ≠ 1 % n :=
  per_spec (mb_into hn) (cyc_cop hg hn (Nat.mod_lt _ hn))

theorem fix_iff {b n x : Nat} (hb : 0 < b) (hn : 0 < n) (hx : x < n) (hxn : Nat.gcd x n = 1) (k : Nat) : it (mb b n) k x = x ↔ it (mb b n) k (1 % n) = 1 % n := by
  rw [it_one hn, it_mb hx]
  constructor
  · intro h
    have hp : 0 < b ^ k := Nat.pow_pos hb
    have hd := dvd_sub_mod (show x % n = x * b ^ k % n by rw [h, Nat.mod_eq_of_lt hx])
    have e : x * b ^ k - x = x * (b ^ k - 1) := by rw [Nat.mul_sub, Nat.mul_one]
    rw [e] at hd
    have hc : Nat.Coprime n x := by rw [Nat.Coprime, Nat.gcd_comm]; exact hxn
    have hd2 := Nat.Coprime.dvd_of_dvd_mul_left hc hd
    obtain ⟨q, hq⟩ := hd2
    rw [show b ^ k = 1 + n * q by omega, Nat.add_mul_mod_self_left]
  · intro h
    rw [Nat.mul_mod, h, ← Nat.mul_mod, Nat.mul_one, Nat.mod_eq_of_lt hx]

theorem per_cop {b n x : Nat} (hb : 0 < b) (hg : Nat.gcd b n = 1) (hn : 0 < n) (hx : x < n) (hxn : Nat.gcd x n = 1) : per (mb b n) n x = ordN b n := by
  obtain ⟨h1, h2, h3, h4⟩ := ord_spec hg hn
  exact per_eq (mb_into hn) (cyc_cop hg hn hx) h1 ((fix_iff hb hn hx hxn _).2 h3) (fun j hj1 hj2 he => h4 j hj1 hj2 ((fix_iff hb hn hx hxn j).1 he))

theorem dep_cop {b n x : Nat} (hg : Nat.gcd b n = 1) (hn : 0 < n) (hx : x < n) : dep (mb b n) n x = 0 :=
  dep_eq hx (cyc_cop hg hn hx) (fun j hj => by omega)

/-- The length of the cycle that a number comes to. -/
def pdN (f : Nat → Nat) (n x : Nat) : Nat := per f n (it f (dep f n x) x)

theorem it_scale (b d m z : Nat) : ∀ k, it (mb b (d * m)) k (d * z) = d * it (mb b m) k z
  | 0 => rfl
  | k + 1 => by
    rw [it, it, it_scale b d m z k]
    show d * it (mb b m) k z * b % (d * m) = d * (it (mb b m) k z * b % m)
    rw [Nat.mul_assoc, Nat.mul_mod_mul_left]

theorem cyc_scale {b d m z : Nat} (hd : 0 < d) (hm : 0 < m) (hz : z < m) : cyc (mb b (d * m)) (d * m) (d * z) = cyc (mb b m) m z := by
  have hdm : 0 < d * m := Nat.mul_pos hd hm
  have hzd : d * z < d * m := Nat.mul_lt_mul_of_pos_left hz hd
  rw [Bool.eq_iff_iff]
  constructor
  · intro h
    obtain ⟨p, h1, h2, h3⟩ := cyc_per (mb_into hdm) h
    rw [it_scale] at h3
    exact cyc_of_per (mb_into hm) hz h1 (Nat.eq_of_mul_eq_mul_left hd h3)
  · intro h
    obtain ⟨p, h1, h2, h3⟩ := cyc_per (mb_into hm) h
    exact cyc_of_per (mb_into hdm) hzd h1 (by rw [it_scale, h3])

theorem dep_scale {b d m z : Nat} (hd : 0 < d) (hm : 0 < m) (hz : z < m) : dep (mb b (d * m)) (d * m) (d * z) = dep (mb b m) m z := by
  have hzd : d * z < d * m := Nat.mul_lt_mul_of_pos_left hz hd
  obtain ⟨h1, h2, h3⟩ := dep_spec (f := mb b m) hz
  refine dep_eq hzd ?_ (fun j hj => ?_)
  · rw [it_scale, cyc_scale hd hm (it_lt (mb_into hm) _ hz)]; exact h2
  · rw [it_scale, cyc_scale hd hm (it_lt (mb_into hm) _ hz)]; exact h3 j hj

theorem per_scale {b d m z : Nat} (hd : 0 < d) (hm : 0 < m) (hz : z < m) (hc : cyc (mb b m) m z = true) : per (mb b (d * m)) (d * m) (d * z) = per (mb b m) m z := by
  have hdm : 0 < d * m := Nat.mul_pos hd hm
  obtain ⟨h1, h2, h3, h4⟩ := per_spec (mb_into hm) hc
  refine per_eq (mb_into hdm) (by rw [cyc_scale hd hm hz]; exact hc) h1 (by rw [it_scale, h3]) (fun j hj1 hj2 he => h4 j hj1 hj2 ?_)
  rw [it_scale] at he
  exact Nat.eq_of_mul_eq_mul_left hd he

theorem pdN_scale {b d m z : Nat} (hd : 0 < d) (hm : 0 < m) (hz : z < m) : pdN (mb b (d * m)) (d * m) (d * z) = pdN (mb b m) m z := by
  unfold pdN
  rw [dep_scale hd hm hz, it_scale, per_scale hd hm (it_lt (mb_into hm) _ hz) (dep_spec (f := mb b m) hz).2.1]

theorem dep_next {f : Nat → Nat} {n x : Nat} (h : Into f n) (hx : x < n) (hc : cyc f n x = false) : dep f n x = dep f n (f x) + 1 := by
  obtain ⟨h1, h2, h3⟩ := dep_spec (f := f) (h x hx)
  refine dep_eq hx (by rw [it_in]; exact h2) (fun j hj => ?_)
  cases j with
  | zero => exact hc
  | succ j => rw [it_in]; exact h3 j (by omega)
theorem pdN_next {f : Nat → Nat} {n x : Nat} (h : Into f n) (hx : x < n) (hc : cyc f n x = false) : pdN f n x = pdN f n (f x) := by
  unfold pdN
  rw [dep_next h hx hc, it_in]

/-- How often a denominator loses what it has in common with the base. -/
def rdC (b n : Nat) : Nat := if h : 0 < n ∧ 1 < Nat.gcd n b then rdC b (n / Nat.gcd n b) + 1 else 0
termination_by n
decreasing_by exact Nat.div_lt_self h.1 h.2
/-- What is left of it. -/
def rdR (b n : Nat) : Nat := if h : 0 < n ∧ 1 < Nat.gcd n b then rdR b (n / Nat.gcd n b) else n
termination_by n
decreasing_by exact Nat.div_lt_self h.1 h.2
theorem rdC_step {b n : Nat} (hn : 0 < n) (h : 1 < Nat.gcd n b) : rdC b n = rdC b (n / Nat.gcd n b) + 1 := by rw [rdC, dif_pos ⟨hn, h⟩]
theorem rdC_end {b n : Nat} (h : ¬ 1 < Nat.gcd n b) : rdC b n = 0 := by rw [rdC, dif_neg (fun c => h c.2)]
theorem rdR_step {b n : Nat} (hn : 0 < n) (h : 1 < Nat.gcd n b) : rdR b n = rdR b (n / Nat.gcd n b) := by rw [rdR, dif_pos ⟨hn, h⟩]
theorem rdR_end {b n : Nat} (h : ¬ 1 < Nat.gcd n b) : rdR b n = n := by rw [rdR, dif_neg (fun c => h c.2)]

theorem rd_pos (b : Nat) : ∀ n, 0 < n → 0 < n / Nat.gcd n b := fun n hn => Nat.div_pos (Nat.gcd_le_left b hn) (Nat.gcd_pos_of_pos_left b hn)

theorem rdR_spec (b : Nat) (hb : 0 < b) : ∀ n, 0 < n → 0 < rdR b n ∧ rdR b n ≤ n ∧ Nat.gcd b (rdR b n) = 1 := by
  intro n
  induction n using Nat.strongRecOn with
  | ind n ih =>
    intro hn
    by_cases h : 1 < Nat.gcd n b
    · have h2 := ih (n / Nat.gcd n b) (Nat.div_lt_self hn h) (rd_pos b n hn)
      rw [rdR_step hn h]
      exact ⟨h2.1, Nat.le_trans h2.2.1 (Nat.div_le_self _ _), h2.2.2⟩
    · rw [rdR_end h]
      have := Nat.gcd_pos_of_pos_left b hn
      exact ⟨hn, Nat.le_refl _, by rw [Nat.gcd_comm]; omega⟩

theorem gcd_split {n b : Nat} (hn : 0 < n) : ∃ m b', 0 < m ∧ n = Nat.gcd n b * m ∧ b = Nat.gcd n b * b' ∧ n / Nat.gcd n b = m ∧ Nat.gcd b' m = 1 := by
  have hg := Nat.gcd_pos_of_pos_left b hn
  obtain ⟨m, hm⟩ := Nat.gcd_dvd_left n b
  obtain ⟨b', hb'⟩ := Nat.gcd_dvd_right n b
  have e1 : n / Nat.gcd n b = m := by
    conv => lhs; lhs; rw [hm]
    exact Nat.mul_div_cancel_left _ hg
  have e2 : b / Nat.gcd n b = b' := by
    conv => lhs; lhs; rw [hb']
    exact Nat.mul_div_cancel_left _ hg
  have hc : Nat.gcd (n / Nat.gcd n b) (b / Nat.gcd n b) = 1 := by rw [Nat.gcd_div (Nat.gcd_dvd_left n b) (Nat.gcd_dvd_right n b), Nat.div_self hg]
  rw [e1, e2] at hc
  exact ⟨m, b', by rw [← e1]; exact rd_pos b n hn, hm, hb', e1, by rw [Nat.gcd_comm]; exact hc⟩

theorem rd_main (b : Nat) (hb : 0 < b) : ∀ n, 0 < n → ∀ x, x < n → Nat.gcd x n = 1 → dep (mb b n) n x = rdC b n ∧ pdN (mb b n) n x = ordN b (rdR b n) := by
  intro n
  induction n using Nat.strongRecOn with
  | ind n ih =>
    intro hn x hx hxn
    by_cases h : 1 < Nat.gcd n b
    · rw [rdC_step hn h, rdR_step hn h]
      have hlt := Nat.div_lt_self hn h
      obtain ⟨m, b', hm, e1, e2, e3, hc⟩ := gcd_split (b := b) hn
      rw [e3] at hlt ⊢
      obtain ⟨d, hd⟩ : ∃ d, d = Nat.gcd n b := ⟨_, rfl⟩
      rw [← hd] at h e1 e2
      have hd0 : 0 < d := by omega
      have hz : x * b' % m < m := Nat.mod_lt _ hm
      have hxm : Nat.gcd x m = 1 := Nat.Coprime.coprime_dvd_right (by rw [e1]; exact Nat.dvd_mul_left m d) hxn
      have hzm : Nat.gcd (x * b' % m) m = 1 := by
        rw [← Nat.gcd_rec]
        rw [Nat.gcd_comm]
        exact Nat.Coprime.mul_left hxm hc
      have hf : mb b n x = d * (x * b' % m) := by
        unfold mb
        rw [e1, e2, ← Nat.mul_assoc, Nat.mul_comm x d, Nat.mul_assoc, Nat.mul_mod_mul_left]
      have hnc : cyc (mb b n) n x = false := by
        rw [← Bool.not_eq_true]
        intro hcy
        obtain ⟨p, h1, h2, h3⟩ := cyc_per (mb_into hn) hcy
        obtain ⟨q, rfl⟩ : ∃ q, p = q + 1 := ⟨p - 1, by omega⟩
        rw [it_in, hf] at h3
        have h4 : it (mb b n) q (d * (x * b' % m)) = d * it (mb b m) q (x * b' % m) := by
          conv => lhs; rw [e1]
          exact it_scale b d m _ q
        have hdx : d ∣ x := ⟨_, (h4.symm.trans h3).symm⟩
        have hdn : d ∣ n := ⟨m, e1⟩
        have := Nat.dvd_gcd hdx hdn
        rw [hxn] at this
        have := Nat.le_of_dvd (by omega) this
        omega
      obtain ⟨i1, i2⟩ := ih m hlt hm _ hz hzm
      have s1 : dep (mb b n) n (d * (x * b' % m)) = dep (mb b m) m (x * b' % m) := by
        conv => lhs; rw [e1]
        exact dep_scale hd0 hm hz
      have s2 : pdN (mb b n) n (d * (x * b' % m)) = pdN (mb b m) m (x * b' % m) := by
        conv => lhs; rw [e1]
        exact pdN_scale hd0 hm hz
      rw [dep_next (mb_into hn) hx hnc, pdN_next (mb_into hn) hx hnc, hf, s1, s2, i1, i2]
      exact ⟨rfl, rfl⟩
    · have hg1 : Nat.gcd b n = 1 := by rw [Nat.gcd_comm]; have := Nat.gcd_pos_of_pos_left b hn; omega
      rw [rdC_end h, rdR_end h, dep_cop hg1 hn hx]
      refine ⟨rfl, ?_⟩
      unfold pdN
      rw [dep_cop hg1 hn hx]
      exact per_cop hb hg1 hn hx hxn

/-- How many digits stand before, and how many come again. -/
def pB (a n b : Nat) : Nat := rdC b (n / Nat.gcd a n)
def pA (a n b : Nat) : Nat := ordN b (rdR b (n / Nat.gcd a n))

theorem period_all {a n b : Nat} (hb : 0 < b) (hn : 0 < n) (ha : a < n) : dep (mb b n) n a = pB a n b ∧ pdN (mb b n) n a = pA a n b := by
  obtain ⟨m, a', hm, e1, e2, e3, hc⟩ := gcd_split (b := a) hn
  have hg := Nat.gcd_pos_of_pos_left a hn
  unfold pB pA
  rw [Nat.gcd_comm a n, e3]
  obtain ⟨d, hd⟩ : ∃ d, d = Nat.gcd n a := ⟨_, rfl⟩
  rw [← hd] at hg e1 e2
  have ha' : a' < m := by
    rw [e1, e2] at ha
    exact Nat.lt_of_mul_lt_mul_left ha
  obtain ⟨i1, i2⟩ := rd_main b hb m hm a' ha' hc
  have s1 : dep (mb b n) n a = dep (mb b m) m a' := by
    rw [e2]
    conv => lhs; rw [e1]
    exact dep_scale hg hm ha'
  have s2 : pdN (mb b n) n a = pdN (mb b m) m a' := by
    rw [e2]
    conv => lhs; rw [e1]
    exact pdN_scale hg hm ha'
  rw [s1, s2]
  exact ⟨i1, i2⟩

/-- Up to where the cycle has gone round no remainder comes twice. -/
theorem late_inj {f : Nat → Nat} {n x : Nat} (h : Into f n) (hx : x < n) {i j : Nat} (hij : i < j) (hj : j < dep f n x + pdN f n x) : it f i x ≠ it f j x := by
  obtain ⟨h1, h2, h3⟩ := dep_spec (f := f) hx
  intro he
  by_cases hi : i < dep f n x
  · have hc := h3 i hi
    -- from i on the run comes back
    have : cyc f n (it f i x) = true := by
      refine cyc_of_per h (it_lt h i hx) (show 1 ≤ j - i by omega) ?_
      rw [← it_add, show j - i + i = j by omega, he]
    rw [hc] at this
    cases this
  · have e1 : it f i x = it f (i - dep f n x) (it f (dep f n x) x) := by rw [← it_add]; congr 1; omega
    have e2 : it f j x = it f (j - dep f n x) (it f (dep f n x) x) := by rw [← it_add]; congr 1; omega
    rw [e1, e2] at he
    exact per_inj h h2 (show i - dep f n x < j - dep f n x by omega) (by unfold pdN at hj; omega) he

theorem late_back {f : Nat → Nat} {n x : Nat} (h : Into f n) (hx : x < n) : it f (dep f n x + pdN f n x) x = it f (dep f n x) x ∧ 1 ≤ pdN f n x ∧ pdN f n x ≤ n ∧ dep f n x ≤ n := by
  obtain ⟨h1, h2, h3⟩ := dep_spec (f := f) hx
  obtain ⟨p1, p2, p3, p4⟩ := per_spec h h2
  refine ⟨?_, p1, p2, h1⟩
  rw [Nat.add_comm, it_add]
  exact p3

end Go.Proofs.Ytgiabadkbfbilab
