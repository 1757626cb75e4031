/-
  Perfect numbers, partners by the rule, and how great a source can be: plain mathematics.
-/
import Derived.Test.Ytgiabadkbfbilab8C
namespace Go.Proofs.Ytgiabadkbfbilab
open Go.RowKit
set_option linter.unusedVariables false
set_option linter.unusedSimpArgs false

theorem pow2_pos (a : Nat) : (1 : Int) ≤ 2 ^ a := (pow_two_le (p := 2) (by omega) a).2
theorem tms_two {q : Int} (hq : 0 < q) (ho : q % 2 = 1) : ∀ a : Nat, tms 2 (2 ^ a * q) = a ∧ cof 2 (2 ^ a * q) = q
  | 0 => by
    have h : ¬ (2 ^ 0 * q) % 2 = 0 := by simp; omega
    rw [tms_end h, cof_end h]; simp
  | a + 1 => by
    obtain ⟨h1, h2⟩ := tms_two hq ho a
    have hp := pow2_pos a
    have hm : 0 < 2 ^ a * q := Int.mul_pos (by omega) hq
    have e : (2 : Int) ^ (a + 1) * q = 2 * (2 ^ a * q) := by rw [Int.pow_succ]; grind
    have e2 : (2 : Int) ^ (a + 1) * q / 2 = 2 ^ a * q := by rw [e]; omega
    have e3 : (2 : Int) ^ (a + 1) * q % 2 = 0 := by rw [e]; omega
    rw [tms_step (by omega) (by rw [e]; omega) e3, cof_step (by omega) (by rw [e]; omega) e3, e2, h1, h2]
    exact ⟨rfl, rfl⟩

/-- Where no divisor lies below, the search may begin later. -/
theorem pws_skip {n : Int} (hn : 0 < n) (d : Int) (hd : 2 ≤ d) : ∀ (k : Nat), Rough (d + k) n → pws d n = pws (d + k) n
  | 0, _ => by rw [show d + ((0 : Nat) : Int) = d by omega]
  | k + 1, h => by
    have ih := pws_skip hn d hd k (fun e h1 h2 => h e h1 (by omega))
    rw [ih]
    have hno : ¬ n % (d + k) = 0 := h (d + k) (by omega) (by omega)
    have e : d + ((k + 1 : Nat) : Int) = d + k + 1 := by omega
    rw [e]
    by_cases hs : (d + k) * (d + k) ≤ n
    · rw [pws_miss (by omega) hs (tms_end hno), cof_end hno]
    · have h2 : ¬ (d + k + 1) * (d + k + 1) ≤ n := by
        have : (d + k + 1) * (d + k + 1) = (d + k) * (d + k) + 2 * (d + k) + 1 := by grind
        omega
      by_cases h3 : 1 < n
      · rw [pws_last hs h3, pws_last h2 h3]
      · rw [pws_none hs h3, pws_none h2 h3]
theorem pws_from {n d e : Int} (hn : 0 < n) (hd : 2 ≤ d) (he : d ≤ e) (h : Rough e n) : pws d n = pws e n := by
  have e1 : e = d + ((e - d).toNat : Nat) := by omega
  rw [e1] at h ⊢
  exact pws_skip hn d hd _ h

/-- A number with one factor has no other divisor. -/
theorem one_rough : ∀ d n, 2 ≤ d → 0 < n → Rough d n → pws d n = [(n, 1)] → ∀ e, d ≤ e → e < n → ¬ n % e = 0 := by
  refine pws_ind (P := fun d n => Rough d n → pws d n = [(n, 1)] → ∀ e, d ≤ e → e < n → ¬ n % e = 0) ?_ ?_ ?_
  · intro d n hd h ht ih hr hp e h1 h2
    rw [pws_hit hd h ht] at hp
    simp only [List.cons.injEq, Prod.mk.injEq] at hp
    have := sq_less hd h
    omega
  · intro d n hd h ht ih hr hp e h1 h2
    have hn : 0 < n := by have := sq_less hd h; omega
    have hno : ¬ n % d = 0 := fun c => by have := tms_pos hd hn c; omega
    have hc : cof d n = n := cof_end hno
    rw [pws_miss hd h ht, hc] at hp
    rw [hc] at ih
    by_cases e1 : e = d
    · rw [e1]; exact hno
    · refine ih (fun f g1 g2 => ?_) hp e (by omega) h2
      by_cases f1 : f = d
      · rw [f1]; exact hno
      · exact hr f g1 (by omega)
  · intro d n hd hn h hr hp e h1 h2 hz
    have hq := quo_mul hz
    have hf2 : 2 ≤ n / e := by
      by_cases c : n / e ≤ 1
      · have c1 : n / e = 1 ∨ n / e ≤ 0 := by omega
        rcases c1 with c1 | c1
        · rw [c1] at hq; omega
        · have := Int.mul_le_mul_of_nonneg_left c1 (show 0 ≤ e by omega)
          omega
      · omega
    have hfd : n / e < d := by
      by_cases c : d ≤ n / e
      · have := Int.mul_le_mul h1 c (by omega) (by omega)
        omega
      · omega
    exact hr (n / e) hf2 hfd (Int.emod_eq_zero_of_dvd ⟨e, by rw [Int.mul_comm]; exact hq.symm⟩)
theorem flt_one {l : List (Int × Nat)} (h : Two l) (hl : (flt l).length = 1) : ∃ x, l = [(x, 1)] := by
  cases l with
  | nil => simp [flt] at hl
  | cons p t =>
    obtain ⟨h1, h2, h3⟩ := h.cons
    have hb := (flt_len h3).2.2
    rw [flt, List.length_append, List.length_replicate] at hl
    have ht : t.length = 0 := by omega
    have ht2 := List.eq_nil_of_length_eq_zero ht
    subst ht2
    refine ⟨p.1, ?_⟩
    have : p.2 = 1 := by simp [flt] at hl; omega
    rw [← this]
/-- Who is prime: numbers with one factor. -/
def prmZ (n : Int) : Prop := (fac n).length = 1
theorem prm_pp {n : Int} (hn : 0 < n) (h : prmZ n) : pp n = [(n, 1)] ∧ Rough n n ∧ 2 ≤ n := by
  obtain ⟨x, hx⟩ := flt_one (pp_two hn) h
  have hv := pp_val hn
  have ht := pp_two hn
  rw [hx] at hv ht
  simp [valP, Int.pow_succ] at hv
  subst hv
  have h2 := (ht _ (List.mem_singleton.2 rfl)).1
  refine ⟨hx, fun e h3 h4 => one_rough 2 x (by omega) hn (Rough.two x) hx e h3 h4, h2⟩

theorem pp_two_pow {q : Int} (ho : q % 2 = 1) (hq : 3 ≤ q) (a : Nat) (ha : 1 ≤ a) : pp (2 ^ a * q) = (2, a) :: pp q := by
  obtain ⟨h1, h2⟩ := tms_two (q := q) (by omega) ho a
  have hp : (2 : Int) ≤ 2 ^ a := by
    have := pow_le (p := 2) (by omega) ha
    simpa using this
  have hm : 2 * 2 ≤ 2 ^ a * q := by
    have := Int.mul_le_mul hp hq (by omega) (by omega)
    omega
  unfold pp
  rw [pws_hit (by omega) hm (by omega), h1, h2]
  rw [← pws_from (n := q) (d := 2) (e := 2 + 1) (by omega) (by omega) (by omega) (fun e h3 h4 => by
    obtain rfl : e = 2 := by omega
    omega)]

theorem pp_pair {u v : Int} (hu : prmZ u) (hv : prmZ v) (h2 : 2 ≤ u) (h : u < v) : pp (u * v) = [(u, 1), (v, 1)] := by
  obtain ⟨pu, ru, _⟩ := prm_pp (by omega) hu
  obtain ⟨pv, rv, _⟩ := prm_pp (n := v) (by omega) hv
  have hpos : 0 < u * v := Int.mul_pos (by omega) (by omega)
  have hr : Rough u (u * v) := fun e h3 h4 h5 => by
    have hd : e.toNat ∣ u.toNat * v.toNat := by
      have h6 := Int.dvd_of_emod_eq_zero h5
      have h7 : ((e.toNat : Nat) : Int) ∣ ((u.toNat * v.toNat : Nat) : Int) := by
        rw [Int.natCast_mul, show ((e.toNat : Nat) : Int) = e by omega, show ((u.toNat : Nat) : Int) = u by omega, show ((v.toNat : Nat) : Int) = v by omega]; exact h6
      exact Int.natCast_dvd_natCast.1 h7
    have hg : Nat.Coprime e.toNat u.toNat := by
      have g1 := Nat.gcd_dvd_right e.toNat u.toNat
      have g2 := Nat.gcd_le_left u.toNat (show 0 < e.toNat by omega)
      have g0 : 0 < Nat.gcd e.toNat u.toNat := Nat.gcd_pos_of_pos_left _ (by omega)
      by_cases g3 : Nat.gcd e.toNat u.toNat = 1
      · exact g3
      · have g4 := ru ((Nat.gcd e.toNat u.toNat : Nat) : Int) (by omega) (by omega)
        refine absurd (Int.emod_eq_zero_of_dvd ?_) g4
        rw [show u = ((u.toNat : Nat) : Int) by omega]
        exact Int.natCast_dvd_natCast.2 g1
    have hdv := Nat.Coprime.dvd_of_dvd_mul_left hg hd
    refine rv e h3 (by omega) (Int.emod_eq_zero_of_dvd ?_)
    rw [show e = ((e.toNat : Nat) : Int) by omega, show v = ((v.toNat : Nat) : Int) by omega]
    exact Int.natCast_dvd_natCast.2 hdv
  have hvu : ¬ v % u = 0 := rv u h2 h
  have hz : (u * v) % u = 0 := Int.mul_emod_right u v
  have hq : u * v / u = v := Int.mul_ediv_cancel_left v (by omega)
  have ht : tms u (u * v) = 1 := by rw [tms_step h2 hpos hz, hq, tms_end hvu]
  have hc : cof u (u * v) = v := by rw [cof_step h2 hpos hz, hq, cof_end hvu]
  unfold pp at pv ⊢
  rw [pws_from hpos (by omega) h2 hr, pws_hit h2 (Int.mul_le_mul_of_nonneg_left (by omega) (by omega)) (by omega), ht, hc, ← pws_from (n := v) (d := 2) (e := u + 1) (by omega) (by omega) (by omega) (fun e h3 h4 => rv e h3 (by omega)), pv]

/-- A source of n is at most the square of n less 1. -/
theorem src_bd {x n : Int} (hx : 0 < x) (h : prop x = n) (hn : 2 ≤ n) : x ≤ (n - 1) * (n - 1) := by
  have hv := pp_val hx
  have hup := pp_up hx
  have h2 := pp_two hx
  unfold prop at h
  cases hq : pp x with
  | nil =>
    rw [hq] at hv h
    simp [valP] at hv
    simp [sgL] at h
    omega
  | cons q rest =>
    obtain ⟨p, t⟩ := q
    rw [hq] at hv hup h2 h
    rw [valP] at hv
    rw [sgL] at h
    obtain ⟨p2, t0, hrest⟩ := h2.cons
    dsimp only at p2 t0 hv h
    obtain ⟨b1, b2, b3, b4, b5⟩ := lists_bd hrest
    obtain ⟨R, hR⟩ : ∃ R, R = valP rest := ⟨_, rfl⟩
    obtain ⟨S, hS⟩ : ∃ S, S = sgL rest := ⟨_, rfl⟩
    rw [← hR] at hv b1 b5
    rw [← hS] at h b1
    have key : ∀ y : Int, 1 ≤ y → y * p = x → p ≤ y → y + 1 ≤ n → x ≤ (n - 1) * (n - 1) := fun y y1 y2 y3 y4 => by
      have e1 : y * p ≤ y * y := Int.mul_le_mul_of_nonneg_left y3 (by omega)
      have e2 : y * y ≤ (n - 1) * (n - 1) := Int.mul_le_mul (by omega) (by omega) (by omega) (by omega)
      omega
    obtain ⟨t', rfl⟩ : ∃ t', t = t' + 1 := ⟨t - 1, by omega⟩
    by_cases ht : t' = 0
    · subst ht
      have hs1 : sgP p (0 + 1) = p + 1 := by simp [sgP]
      rw [hs1] at h
      simp only [Nat.zero_add, Int.pow_succ, Int.pow_zero, Int.one_mul] at hv
      cases rest with
      | nil =>
        simp [valP] at hR
        simp [sgL] at hS
        rw [hR] at hv
        rw [hS] at h
        omega
      | cons q2 r2 =>
        have hup2 := hup.2.2.1
        obtain ⟨q2a, q2b, q2r⟩ := hrest.cons
        obtain ⟨c1, c2, c3, c4, c5⟩ := lists_bd q2r
        have hS1 : R + 1 ≤ S := by
          rw [hR, hS, valP, sgL]
          obtain ⟨z1, z2⟩ := sgP_bd q2a q2.2
          have z3 := sgP_more q2.1 (q2.2 - 1)
          rw [show q2.2 - 1 + 1 = q2.2 by omega] at z3
          have z4 := (sgP_bd q2a (q2.2 - 1)).1
          have z5 := (pow_two_le q2a (q2.2 - 1)).2
          have z6 : q2.1 ^ q2.2 + 1 ≤ sgP q2.1 q2.2 := by omega
          have z7 := (pow_two_le q2a q2.2).2
          have z8 := Int.mul_le_mul z6 c1 (by omega) (by omega)
          have z9 : (q2.1 ^ q2.2 + 1) * valP r2 = q2.1 ^ q2.2 * valP r2 + valP r2 := by grind
          omega
        have hRp : p ≤ R := by
          rw [hR, valP]
          have z7 := (pow_le q2a (show 1 ≤ q2.2 by omega))
          rw [Int.pow_succ, Int.pow_zero, Int.one_mul] at z7
          have z8 : q2.1 ^ q2.2 * 1 ≤ q2.1 ^ q2.2 * valP r2 := Int.mul_le_mul_of_nonneg_left c5 (by omega)
          omega
        have e1 := Int.mul_le_mul_of_nonneg_left hS1 (show 0 ≤ p + 1 by omega)
        have e2 : (p + 1) * (R + 1) = p * R + p + R + 1 := by grind
        exact key R b5 (by rw [Int.mul_comm]; exact hv) hRp (by omega)
    · have hm := sgP_more p t'
      have hb := (sgP_bd p2 t').1
      obtain ⟨t2, rfl⟩ : ∃ t2, t' = t2 + 1 := ⟨t' - 1, by omega⟩
      have hm2 := sgP_more p t2
      have hb2 := (sgP_bd p2 t2).1
      have hp2 := (pow_two_le p2 t2).2
      have hs : p ^ (t2 + 1) + 1 ≤ sgP p (t2 + 1) := by omega
      have e0 : p ^ (t2 + 1 + 1) + p ^ (t2 + 1) + 1 ≤ sgP p (t2 + 1 + 1) := by omega
      have hpp := (pow_two_le p2 (t2 + 1)).2
      have hppp := (pow_two_le p2 (t2 + 1 + 1)).2
      have e1 := Int.mul_le_mul e0 b1 (by omega) (by omega)
      have e2 : (p ^ (t2 + 1 + 1) + p ^ (t2 + 1) + 1) * R = p ^ (t2 + 1 + 1) * R + p ^ (t2 + 1) * R + R := by grind
      have hy : p ≤ p ^ (t2 + 1) * R := by
        have z := pow_le p2 (show 1 ≤ t2 + 1 by omega)
        rw [Int.pow_succ, Int.pow_zero, Int.one_mul] at z
        have z8 : p ^ (t2 + 1) * 1 ≤ p ^ (t2 + 1) * R := Int.mul_le_mul_of_nonneg_left b5 (by omega)
        omega
      refine key (p ^ (t2 + 1) * R) (by omega) ?_ hy (by omega)
      rw [← hv, Int.pow_succ p (t2 + 1)]
      grind

end Go.Proofs.Ytgiabadkbfbilab
