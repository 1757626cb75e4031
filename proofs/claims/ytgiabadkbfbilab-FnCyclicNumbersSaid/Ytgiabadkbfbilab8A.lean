/-
  Prime factors: powers of prime numbers, one after the other, and what sums and numbers of divisors they make: plain mathematics.
-/
import Derived.Test.YtgiabadkbfbilabW
namespace Go.Proofs.Ytgiabadkbfbilab
open Go.RowKit
set_option linter.unusedVariables false
set_option linter.unusedSimpArgs false

theorem dmod (d n : Int) : d * (n / d) + n % d = n := Int.mul_ediv_add_emod n d
theorem quo_less {d n : Int} (hd : 2 ≤ d) (hn : 0 < n) : 0 ≤ n / d ∧ n / d < n := by
  refine ⟨Int.ediv_nonneg (by omega) (by omega), Int.ediv_lt_of_lt_mul (by omega) ?_⟩
  have : n * 2 ≤ n * d := Int.mul_le_mul_of_nonneg_left hd (by omega)
  omega
theorem quo_pos {d n : Int} (hd : 2 ≤ d) (hn : 0 < n) (h : n % d = 0) : 0 < n / d := by
  have h6 := dmod d n
  have h7 := (quo_less hd hn).1
  by_cases hz : n / d = 0
  · rw [hz, h] at h6; omega
  · omega
theorem quo_mul {d n : Int} (h : n % d = 0) : d * (n / d) = n := by have := dmod d n; omega
theorem sq_less {d n : Int} (hd : 2 ≤ d) (h : d * d ≤ n) : d < n := by
  have : 2 * d ≤ d * d := Int.mul_le_mul_of_nonneg_right hd (by omega)
  omega

/-- What is left of a number if a divisor is taken away as often as it divides. -/
def cof (d n : Int) : Int := if h : 2 ≤ d ∧ 0 < n ∧ n % d = 0 then cof d (n / d) else n
termination_by n.toNat
decreasing_by
  have := quo_less h.1 h.2.1
  omega
/-- How often it divides. -/
def tms (d n : Int) : Nat := if h : 2 ≤ d ∧ 0 < n ∧ n % d = 0 then tms d (n / d) + 1 else 0
termination_by n.toNat
decreasing_by
  have := quo_less h.1 h.2.1
  omega

theorem cof_step {d n : Int} (hd : 2 ≤ d) (hn : 0 < n) (h : n % d = 0) : cof d n = cof d (n / d) := by rw [cof, dif_pos ⟨hd, hn, h⟩]
theorem cof_end {d n : Int} (h : ¬ n % d = 0) : cof d n = n := by rw [cof, dif_neg (fun c => h c.2.2)]
theorem tms_step {d n : Int} (hd : 2 ≤ d) (hn : 0 < n) (h : n % d = 0) : tms d n = tms d (n / d) + 1 := by rw [tms, dif_pos ⟨hd, hn, h⟩]
theorem tms_end {d n : Int} (h : ¬ n % d = 0) : tms d n = 0 := by rw [tms, dif_neg (fun c => h c.2.2)]

theorem cof_ind {d : Int} (hd : 2 ≤ d) {P : Int → Prop} (h0 : ∀ n, 0 < n → ¬ n % d = 0 → P n) (h1 : ∀ n, 0 < n → n % d = 0 → P (n / d) → P n) : ∀ n, 0 < n → P n := by
  have key : ∀ (k : Nat) (n : Int), n.toNat ≤ k → 0 < n → P n := by
    intro k
    induction k with
    | zero => intro n hk hn; omega
    | succ k ih =>
      intro n hk hn
      by_cases h : n % d = 0
      · have h2 := quo_less hd hn
        exact h1 n hn h (ih _ (by omega) (quo_pos hd hn h))
      · exact h0 n hn h
  exact fun n hn => key n.toNat n (Nat.le_refl _) hn

theorem cof_mul {d : Int} (hd : 2 ≤ d) (n : Int) (hn : 0 < n) : d ^ tms d n * cof d n = n := by
  refine cof_ind hd (P := fun n => d ^ tms d n * cof d n = n) ?_ ?_ n hn
  · intro n hn h
    rw [tms_end h, cof_end h]; simp
  · intro n hn h ih
    rw [tms_step hd hn h, cof_step hd hn h, Int.pow_succ, Int.mul_comm (d ^ _) d, Int.mul_assoc, ih, quo_mul h]
theorem cof_pos {d : Int} (hd : 2 ≤ d) (n : Int) (hn : 0 < n) : 0 < cof d n ∧ cof d n ≤ n := by
  refine cof_ind hd (P := fun n => 0 < cof d n ∧ cof d n ≤ n) ?_ ?_ n hn
  · intro n hn h
    rw [cof_end h]; omega
  · intro n hn h ih
    rw [cof_step hd hn h]
    have := quo_less hd hn
    omega
theorem cof_no {d : Int} (hd : 2 ≤ d) (n : Int) (hn : 0 < n) : ¬ cof d n % d = 0 := by
  refine cof_ind hd (P := fun n => ¬ cof d n % d = 0) ?_ ?_ n hn
  · intro n hn h
    rw [cof_end h]; exact h
  · intro n hn h ih
    rw [cof_step hd hn h]; exact ih
theorem tms_lt {d : Int} (hd : 2 ≤ d) (n : Int) (hn : 0 < n) : (tms d n : Int) < n := by
  refine cof_ind hd (P := fun n => (tms d n : Int) < n) ?_ ?_ n hn
  · intro n hn h
    rw [tms_end h]; omega
  · intro n hn h ih
    rw [tms_step hd hn h]
    have := quo_less hd hn
    omega
theorem tms_pos {d n : Int} (hd : 2 ≤ d) (hn : 0 < n) (h : n % d = 0) : 0 < tms d n := by rw [tms_step hd hn h]; omega

/-- What divides the rest divides the whole. -/
theorem cof_dvd {d : Int} (hd : 2 ≤ d) (n e : Int) (hn : 0 < n) (h : cof d n % e = 0) : n % e = 0 := by
  have h1 := cof_mul hd n hn
  obtain ⟨c, hc⟩ := Int.dvd_of_emod_eq_zero h
  rw [hc] at h1
  rw [← h1]
  exact Int.emod_eq_zero_of_dvd ⟨d ^ tms d n * c, by grind⟩

/-- The prime numbers that divide a number, from d on, and how often. -/
def pws (d n : Int) : List (Int × Nat) := if h : 2 ≤ d ∧ d * d ≤ n then (if 0 < tms d n then (d, tms d n) :: pws (d + 1) (cof d n) else pws (d + 1) (cof d n)) else if 1 < n then [(n, 1)] else []
termination_by (n - d).toNat
decreasing_by
  all_goals
    have h1 := sq_less h.1 h.2
    have h2 := cof_pos h.1 n (by omega)
    omega

theorem pws_hit {d n : Int} (hd : 2 ≤ d) (h : d * d ≤ n) (ht : 0 < tms d n) : pws d n = (d, tms d n) :: pws (d + 1) (cof d n) := by
  rw [pws, dif_pos ⟨hd, h⟩, if_pos ht]
theorem pws_miss {d n : Int} (hd : 2 ≤ d) (h : d * d ≤ n) (ht : tms d n = 0) : pws d n = pws (d + 1) (cof d n) := by
  rw [pws, dif_pos ⟨hd, h⟩, if_neg (by omega)]
theorem pws_last {d n : Int} (h : ¬ d * d ≤ n) (h1 : 1 < n) : pws d n = [(n, 1)] := by
  rw [pws, dif_neg (fun c => h c.2), if_pos h1]
theorem pws_none {d n : Int} (h : ¬ d * d ≤ n) (h1 : ¬ 1 < n) : pws d n = [] := by
  rw [pws, dif_neg (fun c => h c.2), if_neg h1]

theorem pws_ind {P : Int → Int → Prop} (hhit : ∀ d n, 2 ≤ d → d * d ≤ n → 0 < tms d n → P (d + 1) (cof d n) → P d n) (hmiss : ∀ d n, 2 ≤ d → d * d ≤ n → tms d n = 0 → P (d + 1) (cof d n) → P d n)
    (hlast : ∀ d n, 2 ≤ d → 0 < n → ¬ d * d ≤ n → P d n) : ∀ d n, 2 ≤ d → 0 < n → P d n := by
  have key : ∀ (k : Nat) (d n : Int), (n - d).toNat ≤ k → 2 ≤ d → 0 < n → P d n := by
    intro k
    induction k with
    | zero =>
      intro d n hk hd hn
      refine hlast d n hd hn (fun h => ?_)
      have := sq_less hd h
      omega
    | succ k ih =>
      intro d n hk hd hn
      by_cases h : d * d ≤ n
      · have h1 := sq_less hd h
        have h2 := cof_pos hd n hn
        have h3 := ih (d + 1) (cof d n) (by omega) (by omega) h2.1
        by_cases ht : 0 < tms d n
        · exact hhit d n hd h ht h3
        · exact hmiss d n hd h (by omega) h3
      · exact hlast d n hd hn h
  exact fun d n hd hn => key (n - d).toNat d n (Nat.le_refl _) hd hn

/-- What powers of numbers make together. -/
def valP : List (Int × Nat) → Int
  | [] => 1
  | p :: t => p.1 ^ p.2 * valP t

theorem pws_val : ∀ d n, 2 ≤ d → 0 < n → valP (pws d n) = n := by
  refine pws_ind ?_ ?_ ?_
  · intro d n hd h ht ih
    rw [pws_hit hd h ht, valP, ih]
    exact cof_mul hd n (by have := sq_less hd h; omega)
  · intro d n hd h ht ih
    rw [pws_miss hd h ht, ih]
    have := cof_mul hd n (by have := sq_less hd h; omega)
    rw [ht] at this
    simpa using this
  · intro d n hd hn h
    by_cases h1 : 1 < n
    · rw [pws_last h h1]; simp [valP, Int.pow_succ]
    · rw [pws_none h h1]; simp [valP]; omega

/-- No number in 2..d - 1 divides n. -/
def Rough (d n : Int) : Prop := ∀ e, 2 ≤ e → e < d → ¬ n % e = 0
theorem Rough.two (n : Int) : Rough 2 n := fun e h1 h2 => by omega
theorem Rough.next {d n : Int} (h : Rough d n) (hd : 2 ≤ d) (hn : 0 < n) : Rough (d + 1) (cof d n) := fun e h1 h2 h3 => by
  by_cases he : e = d
  · subst he; exact cof_no hd n hn h3
  · exact h e h1 (by omega) (cof_dvd hd n e hn h3)
theorem Rough.le {d n : Int} (h : Rough d n) (hn : 1 < n) : d ≤ n := by
  by_cases hd : d ≤ n
  · exact hd
  · exact absurd (Int.emod_self) (h n (by omega) (by omega))

/-- Powers of numbers that increase, from d on. -/
def Up : Int → List (Int × Nat) → Prop
  | _, [] => True
  | d, p :: t => d ≤ p.1 ∧ 0 < p.2 ∧ Up (p.1 + 1) t
theorem Up.mono {d e : Int} {l : List (Int × Nat)} (h : Up d l) (he : e ≤ d) : Up e l := by
  cases l with
  | nil => trivial
  | cons p t => exact ⟨by have := h.1; omega, h.2.1, h.2.2⟩

theorem pws_up : ∀ d n, 2 ≤ d → 0 < n → Rough d n → Up d (pws d n) := by
  refine pws_ind (P := fun d n => Rough d n → Up d (pws d n)) ?_ ?_ ?_
  · intro d n hd h ht ih hr
    rw [pws_hit hd h ht]
    exact ⟨Int.le_refl _, ht, ih (hr.next hd (by have := sq_less hd h; omega))⟩
  · intro d n hd h ht ih hr
    rw [pws_miss hd h ht]
    exact (ih (hr.next hd (by have := sq_less hd h; omega))).mono (by omega)
  · intro d n hd hn h hr
    by_cases h1 : 1 < n
    · rw [pws_last h h1]; exact ⟨hr.le h1, Nat.one_pos, trivial⟩
    · rw [pws_none h h1]; trivial

/-- The powers of prime numbers that make a number. -/
def pp (n : Int) : List (Int × Nat) := pws 2 n
theorem pp_up {n : Int} (hn : 0 < n) : Up 2 (pp n) := pws_up 2 n (by omega) hn (Rough.two n)
theorem pp_val {n : Int} (hn : 0 < n) : valP (pp n) = n := pws_val 2 n (by omega) hn

/-- Even numbers divide no odd ones. -/
theorem pws_even {d n : Int} (hd : 2 ≤ d) (h0 : d % 2 = 0) (h1 : n % 2 = 1) (hn : 0 < n) : pws d n = pws (d + 1) n := by
  have hno : ¬ n % d = 0 := fun h => by
    have h2 := quo_mul h
    have h3 : d = 2 * (d / 2) := by omega
    rw [h3, Int.mul_assoc] at h2
    omega
  by_cases h : d * d ≤ n
  · rw [pws_miss hd h (tms_end hno), cof_end hno]
  · have h2 : ¬ (d + 1) * (d + 1) ≤ n := by
      have : (d + 1) * (d + 1) = d * d + 2 * d + 1 := by grind
      omega
    by_cases h3 : 1 < n
    · rw [pws_last h h3, pws_last h2 h3]
    · rw [pws_none h h3, pws_none h2 h3]
theorem odd_cof {d n : Int} (hd : 2 ≤ d) (hn : 0 < n) (h : n % 2 = 1) : cof d n % 2 = 1 := by
  have h1 := cof_dvd hd n 2 hn
  omega

/-- All factors, each as often as it divides. -/
def flt : List (Int × Nat) → List Int
  | [] => []
  | p :: t => List.replicate p.2 p.1 ++ flt t
def fac (n : Int) : List Int := flt (pp n)
theorem flt_app (a b : List (Int × Nat)) : flt (a ++ b) = flt a ++ flt b := by
  induction a with
  | nil => rfl
  | cons p t ih => rw [List.cons_append, flt, flt, ih, List.append_assoc]
theorem valP_app (a b : List (Int × Nat)) : valP (a ++ b) = valP a * valP b := by
  induction a with
  | nil => simp [valP]
  | cons p t ih => rw [List.cons_append, valP, valP, ih, Int.mul_assoc]

/-- All bases of the powers are at least 2, and none is taken no time. -/
def Two (l : List (Int × Nat)) : Prop := ∀ p ∈ l, 2 ≤ p.1 ∧ 0 < p.2
theorem Up.two {d : Int} {l : List (Int × Nat)} (hd : 2 ≤ d) (h : Up d l) : Two l := by
  induction l generalizing d with
  | nil => intro p hp; cases hp
  | cons a t ih =>
    intro p hp
    rcases List.mem_cons.1 hp with rfl | hp
    · exact ⟨Int.le_trans hd h.1, h.2.1⟩
    · exact ih (d := a.1 + 1) (by have := h.1; omega) h.2.2 p hp
theorem Two.app {a b : List (Int × Nat)} (h : Two (a ++ b)) : Two a ∧ Two b := ⟨fun p hp => h p (by simp [hp]), fun p hp => h p (by simp [hp])⟩
theorem Two.cons {p : Int × Nat} {t : List (Int × Nat)} (h : Two (p :: t)) : 2 ≤ p.1 ∧ 0 < p.2 ∧ Two t := ⟨(h p (by simp)).1, (h p (by simp)).2, fun q hq => h q (by simp [hq])⟩

theorem pow_two_le {p : Int} (hp : 2 ≤ p) : ∀ (k : Nat), 2 ^ k ≤ p ^ k ∧ 1 ≤ p ^ k
  | 0 => by simp
  | k + 1 => by
    have ih := pow_two_le hp k
    rw [Int.pow_succ, Int.pow_succ]
    have h1 : (2 : Int) ^ k * 2 ≤ p ^ k * 2 := Int.mul_le_mul_of_nonneg_right ih.1 (by omega)
    have h2 : p ^ k * 2 ≤ p ^ k * p := Int.mul_le_mul_of_nonneg_left hp (by omega)
    exact ⟨by omega, by omega⟩

theorem flt_len {l : List (Int × Nat)} (h : Two l) : (2 : Int) ^ (flt l).length ≤ valP l ∧ 1 ≤ valP l ∧ l.length ≤ (flt l).length := by
  induction l with
  | nil => simp [flt, valP]
  | cons p t ih =>
    obtain ⟨h1, h2, h3⟩ := h.cons
    obtain ⟨i1, i2, i3⟩ := ih h3
    obtain ⟨q1, q2⟩ := pow_two_le h1 p.2
    rw [flt, valP, List.length_append, List.length_replicate, Int.pow_add]
    refine ⟨?_, ?_, by simp; omega⟩
    · exact Int.mul_le_mul q1 i1 (Int.le_of_lt (Int.pow_pos (by omega))) (by omega)
    · have := Int.mul_le_mul q2 i2 (by omega) (by omega)
      omega

theorem len_30 {L : Nat} {v : Int} (h : (2 : Int) ^ L ≤ v) (hv : v ≤ 1000000000) : L < 30 := by
  by_cases hL : L < 30
  · exact hL
  · have h1 : (2 : Nat) ^ 30 ≤ 2 ^ L := Nat.pow_le_pow_right (by omega) (by omega)
    have h2 : ((2 ^ L : Nat) : Int) = (2 : Int) ^ L := by simp
    have h3 : (2 : Nat) ^ 30 = 1073741824 := by decide
    omega

end Go.Proofs.Ytgiabadkbfbilab
