/-
  Sums and numbers of divisors multiply; they are sums over all divisors; factors are prime: plain mathematics.
-/
import Derived.Test.Ytlpmfapjgmhbhaa0Q
namespace Go.Proofs.Ytlpmfapjgmhbhaa
open Go.RowKit
set_option linter.unusedVariables false
set_option linter.unusedSimpArgs false

/-- A product over prime powers. -/
def mlG (g : Int → Nat → Int) : List (Int × Nat) → Int
  | [] => 1
  | p :: t => g p.1 p.2 * mlG g t
theorem sgL_G : ∀ l, sgL l = mlG sgP l
  | [] => rfl
  | p :: t => by rw [sgL, mlG, sgL_G t]
theorem ctL_G : ∀ l, ctL l = mlG (fun _ t => (t : Int) + 1) l
  | [] => rfl
  | p :: t => by rw [ctL, mlG, ctL_G t]

theorem rough_div {d n : Int} (hd : 2 ≤ d) (hn : 0 < n) (hr : Rough d n) (hz : n % d = 0) (hs : ¬ d * d ≤ n) : n = d := by
  have hq := quo_mul hz
  have hp := quo_pos hd hn hz
  by_cases h1 : n / d = 1
  · rw [h1] at hq; omega
  · have hlt : n / d < d := by
      by_cases c : d ≤ n / d
      · have := Int.mul_le_mul_of_nonneg_left c (show 0 ≤ d by omega)
        omega
      · omega
    exact absurd (Int.emod_eq_zero_of_dvd ⟨d, by rw [Int.mul_comm]; exact hq.symm⟩) (hr (n / d) (by omega) hlt)
theorem sq_next (d : Int) : (d + 1) * (d + 1) = d * d + 2 * d + 1 := by grind
theorem sq_four {d : Int} (hd : 2 ≤ d) : 4 ≤ d * d := by
  have := Int.mul_le_mul hd hd (by omega) (by omega)
  omega
theorem pws_one {d : Int} (hd : 2 ≤ d) : pws d 1 = [] := pws_none (by have := sq_four hd; omega) (by omega)

theorem G_step {g : Int → Nat → Int} (g0 : ∀ d, g d 0 = 1) {d n : Int} (hd : 2 ≤ d) (hn : 0 < n) (hr : Rough d n) : mlG g (pws d n) = g d (tms d n) * mlG g (pws (d + 1) (cof d n)) := by
  by_cases hs : d * d ≤ n
  · by_cases ht : 0 < tms d n
    · rw [pws_hit hd hs ht]; rfl
    · have h0 : tms d n = 0 := by omega
      rw [pws_miss hd hs h0, h0, g0, Int.one_mul]
  · by_cases hz : n % d = 0
    · obtain rfl := rough_div hd hn hr hz hs
      have h1 : ¬ (1 : Int) % n = 0 := by rw [Int.emod_eq_of_lt (by omega) (by omega)]; omega
      have hq : n / n = 1 := Int.ediv_self (by omega)
      have ht : tms n n = 1 := by rw [tms_step hd hn hz, hq, tms_end h1]
      have hc : cof n n = 1 := by rw [cof_step hd hn hz, hq, cof_end h1]
      rw [pws_last hs (by omega), ht, hc, pws_one (by omega)]
      simp [mlG]
    · rw [tms_end hz, cof_end hz, g0, Int.one_mul]
      have h2 : ¬ (d + 1) * (d + 1) ≤ n := by rw [sq_next]; omega
      by_cases h1 : 1 < n
      · rw [pws_last hs h1, pws_last h2 h1]
      · rw [pws_none hs h1, pws_none h2 h1]

theorem emod_trans {a b c : Int} (h : b % a = 0) (h2 : c % b = 0) : c % a = 0 :=
  Int.emod_eq_zero_of_dvd (Int.dvd_trans (Int.dvd_of_emod_eq_zero h) (Int.dvd_of_emod_eq_zero h2))
/-- What divides a product and has no divisor with one side divides the other. -/
theorem cop_dvd {e a b : Int} (he : 1 ≤ e) (ha : 0 < a) (hb : 0 < b) (hc : ∀ f, 2 ≤ f → f ≤ e → e % f = 0 → a % f = 0 → False) (h : (a * b) % e = 0) : b % e = 0 := by
  have hd : e.toNat ∣ a.toNat * b.toNat := by
    have h6 := Int.dvd_of_emod_eq_zero h
    have h7 : ((e.toNat : Nat) : Int) ∣ ((a.toNat * b.toNat : Nat) : Int) := by
      rw [Int.natCast_mul, show ((e.toNat : Nat) : Int) = e by omega, show ((a.toNat : Nat) : Int) = a by omega, show ((b.toNat : Nat) : Int) = b by omega]; exact h6
    exact Int.natCast_dvd_natCast.1 h7
  have hg : Nat.Coprime e.toNat a.toNat := by
    have g1 := Nat.gcd_dvd_right e.toNat a.toNat
    have g1' := Nat.gcd_dvd_left e.toNat a.toNat
    have g2 := Nat.gcd_le_left a.toNat (show 0 < e.toNat by omega)
    have g0 : 0 < Nat.gcd e.toNat a.toNat := Nat.gcd_pos_of_pos_left _ (by omega)
    by_cases g3 : Nat.gcd e.toNat a.toNat = 1
    · exact g3
    · refine (hc ((Nat.gcd e.toNat a.toNat : Nat) : Int) (by omega) (by omega) (Int.emod_eq_zero_of_dvd ?_) (Int.emod_eq_zero_of_dvd ?_)).elim
      · rw [show e = ((e.toNat : Nat) : Int) by omega]
        exact Int.natCast_dvd_natCast.2 g1'
      · rw [show a = ((a.toNat : Nat) : Int) by omega]
        exact Int.natCast_dvd_natCast.2 g1
  have hdv := Nat.Coprime.dvd_of_dvd_mul_left hg hd
  refine Int.emod_eq_zero_of_dvd ?_
  rw [show e = ((e.toNat : Nat) : Int) by omega, show b = ((b.toNat : Nat) : Int) by omega]
  exact Int.natCast_dvd_natCast.2 hdv

def Cop (n m : Int) : Prop := ∀ e, 2 ≤ e → n % e = 0 → m % e = 0 → False
theorem no_div {d n m : Int} (hd : 2 ≤ d) (hn : 0 < n) (hm : 0 < m) (rn : Rough d n) (h1 : ¬ n % d = 0) (h : (n * m) % d = 0) : m % d = 0 :=
  cop_dvd (by omega) hn hm (fun f f2 fd _ hz => by
    by_cases e : f = d
    · rw [e] at hz; exact h1 hz
    · exact rn f f2 (by omega) hz) h
theorem mul_quo {d n m : Int} (hd : 2 ≤ d) (h : n % d = 0) : (n * m) % d = 0 ∧ n * m / d = n / d * m := by
  have hq := quo_mul h
  have e : n * m = d * (n / d * m) := by rw [← Int.mul_assoc, hq]
  rw [e]
  exact ⟨Int.mul_emod_right d _, Int.mul_ediv_cancel_left _ (by omega)⟩
theorem tms_mul {d m : Int} (hd : 2 ≤ d) (hm : 0 < m) (hc : ∀ f, 2 ≤ f → f ≤ d → d % f = 0 → m % f = 0 → False) : ∀ n, 0 < n → tms d (n * m) = tms d n ∧ cof d (n * m) = cof d n * m := by
  refine cof_ind hd (P := fun n => tms d (n * m) = tms d n ∧ cof d (n * m) = cof d n * m) ?_ ?_
  · intro n hn h
    have h2 : ¬ (n * m) % d = 0 := fun c => h (cop_dvd (by omega) hm hn hc (by rw [Int.mul_comm]; exact c))
    rw [tms_end h, tms_end h2, cof_end h, cof_end h2]
    exact ⟨rfl, rfl⟩
  · intro n hn h ih
    obtain ⟨h1, h2⟩ := mul_quo (m := m) hd h
    have hp : 0 < n * m := Int.mul_pos hn hm
    rw [tms_step hd hp h1, cof_step hd hp h1, h2, ih.1, ih.2, tms_step hd hn h, cof_step hd hn h]
    exact ⟨rfl, rfl⟩
theorem Rough.down {d e n : Int} (h : Rough d n) (he : e ≤ d) : Rough e n := fun f a b => h f a (by omega)
theorem Rough.up {d n : Int} (h : Rough d n) (hz : ¬ n % d = 0) : Rough (d + 1) n := fun f a b => by
  by_cases e : f = d
  · rw [e]; exact hz
  · exact h f a (by omega)
theorem Rough.one {d n : Int} (h : Rough d n) (hn : 0 < n) (hl : n < d) : n = 1 := by
  by_cases c : 1 < n
  · have := h.le c; omega
  · omega

theorem G_mul {g : Int → Nat → Int} (g0 : ∀ d, g d 0 = 1) : ∀ (k : Nat) (d n m : Int), 2 ≤ d → 0 < n → 0 < m → Rough d n → Rough d m → Cop n m → n * m < d + k → mlG g (pws d (n * m)) = mlG g (pws d n) * mlG g (pws d m)
  | 0, d, n, m, hd, hn, hm, rn, rm, hc, hk => by
    have h1 : n * 1 ≤ n * m := Int.mul_le_mul_of_nonneg_left (by omega) (by omega)
    have h2 : 1 * m ≤ n * m := Int.mul_le_mul_of_nonneg_right (by omega) (by omega)
    obtain rfl := rn.one hn (by omega)
    obtain rfl := rm.one hm (by omega)
    rw [Int.one_mul, pws_one hd]
    simp [mlG]
  | k + 1, d, n, m, hd, hn, hm, rn, rm, hc, hk => by
    have hp : 0 < n * m := Int.mul_pos hn hm
    have hr : Rough d (n * m) := fun e h2 h3 hz => rm e h2 h3 (no_div h2 hn hm (rn.down (by omega)) (rn e h2 h3) hz)
    rw [G_step g0 hd hp hr, G_step g0 hd hn rn, G_step g0 hd hm rm]
    by_cases dn : n % d = 0
    · have dm : ¬ m % d = 0 := fun c => hc d hd dn c
      obtain ⟨e1, e2⟩ := tms_mul hd hm (fun f f2 fd hz hm' => hc f f2 (emod_trans hz dn) hm') n hn
      obtain ⟨c1, c2⟩ := cof_pos hd n hn
      have hle := Int.mul_le_mul_of_nonneg_right c2 (show 0 ≤ m by omega)
      have ih := G_mul g0 k (d + 1) (cof d n) m (by omega) c1 hm (rn.next hd hn) (rm.up dm) (fun e h2 h3 h4 => hc e h2 (cof_dvd hd n e hn h3) h4) (by omega)
      rw [e1, e2, tms_end dm, cof_end dm, g0, ih, Int.one_mul, Int.mul_assoc]
    · by_cases dm : m % d = 0
      · obtain ⟨e1, e2⟩ := tms_mul hd hn (fun f f2 fd hz hn' => hc f f2 hn' (emod_trans hz dm)) m hm
        obtain ⟨c1, c2⟩ := cof_pos hd m hm
        have hle := Int.mul_le_mul_of_nonneg_left c2 (show 0 ≤ n by omega)
        have ih := G_mul g0 k (d + 1) n (cof d m) (by omega) hn c1 (rn.up dn) (rm.next hd hm) (fun e h2 h3 h4 => hc e h2 h3 (cof_dvd hd m e hm h4)) (by omega)
        rw [Int.mul_comm n m, e1, e2, tms_end dn, cof_end dn, g0, Int.mul_comm (cof d m) n, ih, Int.one_mul, Int.mul_left_comm]
      · have dnm : ¬ (n * m) % d = 0 := fun c => dm (no_div hd hn hm rn dn c)
        have ih := G_mul g0 k (d + 1) n m (by omega) hn hm (rn.up dn) (rm.up dm) hc (by omega)
        rw [tms_end dn, cof_end dn, tms_end dm, cof_end dm, tms_end dnm, cof_end dnm, g0, ih, Int.one_mul, Int.one_mul, Int.one_mul]
theorem sgL_mul {n m : Int} (hn : 0 < n) (hm : 0 < m) (hc : Cop n m) : sgL (pp (n * m)) = sgL (pp n) * sgL (pp m) := by
  rw [sgL_G, sgL_G, sgL_G]
  exact G_mul (fun _ => rfl) (n * m).toNat 2 n m (by omega) hn hm (Rough.two n) (Rough.two m) hc (by omega)
theorem ctL_mul {n m : Int} (hn : 0 < n) (hm : 0 < m) (hc : Cop n m) : ctL (pp (n * m)) = ctL (pp n) * ctL (pp m) := by
  rw [ctL_G, ctL_G, ctL_G]
  exact G_mul (fun _ => by simp) (n * m).toNat 2 n m (by omega) hn hm (Rough.two n) (Rough.two m) hc (by omega)

/-- Sums over 1, .., k. -/
def smT (f : Int → Int) : Nat → Int
  | 0 => 0
  | k + 1 => smT f k + f ((k + 1 : Nat) : Int)
theorem smT_congr {f g : Int → Int} : ∀ k : Nat, (∀ e : Nat, 1 ≤ e → e ≤ k → f (e : Int) = g (e : Int)) → smT f k = smT g k
  | 0, _ => rfl
  | k + 1, h => by rw [smT, smT, smT_congr k (fun e a b => h e a (by omega)), h (k + 1) (by omega) (by omega)]
theorem smT_add (f g : Int → Int) : ∀ k, smT (fun e => f e + g e) k = smT f k + smT g k
  | 0 => by simp [smT]
  | k + 1 => by rw [smT, smT, smT, smT_add f g k]; omega
theorem smT_mul (c : Int) (f : Int → Int) : ∀ k, smT (fun e => c * f e) k = c * smT f k
  | 0 => by simp [smT]
  | k + 1 => by rw [smT, smT, smT_mul c f k, Int.mul_add]
theorem smT_zero {f : Int → Int} (a : Nat) : ∀ b : Nat, (∀ e : Nat, a < e → e ≤ a + b → f (e : Int) = 0) → smT f (a + b) = smT f a
  | 0, _ => rfl
  | b + 1, h => by rw [← Nat.add_assoc, smT, smT_zero a b (fun e x y => h e x (by omega)), h (a + b + 1) (by omega) (by omega)]; omega
theorem smT_blocks {D : Nat} (hD : 1 ≤ D) (h : Int → Int) : ∀ k : Nat, smT (fun e => if e % (D : Int) = 0 then h e else 0) (D * k) = smT (fun f => h ((D : Int) * f)) k
  | 0 => by simp [smT]
  | k + 1 => by
    have ih := smT_blocks hD h k
    have e1 : D * (k + 1) = D * k + (D - 1) + 1 := by rw [Nat.mul_succ]; omega
    have hz := smT_zero (f := fun e => if e % (D : Int) = 0 then h e else 0) (D * k) (D - 1) (fun e h1 h2 => by
      show (if (e : Int) % (D : Int) = 0 then h e else 0) = 0
      refine if_neg fun c => ?_
      obtain ⟨q, hq⟩ := Int.dvd_of_emod_eq_zero c
      have hq0 : D ∣ e := Int.natCast_dvd_natCast.1 (Int.dvd_of_emod_eq_zero c)
      obtain ⟨r, hr⟩ := hq0
      subst hr
      have r1 : k < r := by
        by_cases x : r ≤ k
        · have := Nat.mul_le_mul_left D x; omega
        · omega
      have := Nat.mul_le_mul_left D (show k + 1 ≤ r by omega)
      rw [Nat.mul_succ] at this
      omega)
    rw [e1, smT, hz, ih, smT, ← e1]
    have e2 : ((D * (k + 1) : Nat) : Int) = (D : Int) * ((k + 1 : Nat) : Int) := Int.natCast_mul _ _
    rw [e2, if_pos (Int.mul_emod_right _ _)]

/-- A sum over all divisors. -/
def dvW (w : Int → Int) (n : Int) : Int := smT (fun e => if n % e = 0 then w e else 0) n.toNat
theorem cof_keeps {d e : Int} (hd : 2 ≤ d) (he : 1 ≤ e) (hc : ∀ f, 2 ≤ f → f ≤ e → e % f = 0 → d % f = 0 → False) : ∀ n, 0 < n → n % e = 0 → cof d n % e = 0 := by
  refine cof_ind hd (P := fun n => n % e = 0 → cof d n % e = 0) ?_ ?_
  · intro n hn h hz; rw [cof_end h]; exact hz
  · intro n hn h ih hz
    rw [cof_step hd hn h]
    exact ih (cop_dvd he (by omega) (quo_pos hd hn h) hc (by rw [quo_mul h]; exact hz))
theorem dvW_step {w : Int → Int} (hw : ∀ a b, w (a * b) = w a * w b) {d n : Int} (hd : 2 ≤ d) (hn : 0 < n) (hr : Rough d n) (hz : n % d = 0) : dvW w n = dvW w (cof d n) + w d * dvW w (n / d) := by
  have hq := quo_mul hz
  have hqp := quo_pos hd hn hz
  obtain ⟨c1, c2⟩ := cof_pos hd n hn
  have hno := cof_no hd n hn
  have s1 : dvW w n = smT (fun e => (if cof d n % e = 0 then w e else 0) + (if e % d = 0 then (if n % e = 0 then w e else 0) else 0)) n.toNat := by
    unfold dvW
    refine smT_congr _ fun e e1 e2 => ?_
    by_cases hed : (e : Int) % d = 0
    · rw [if_pos hed, if_neg (fun c => hno (emod_trans hed c)), Int.zero_add]
    · rw [if_neg hed, Int.add_zero]
      by_cases hne : n % (e : Int) = 0
      · rw [if_pos hne, if_pos (cof_keeps hd (by omega) (fun f f2 fe hz1 hz2 => by
          by_cases x : f = d
          · rw [x] at hz1; exact hed hz1
          · have hfd : f ≤ d := Int.le_of_dvd (by omega) (Int.dvd_of_emod_eq_zero hz2)
            exact hr f f2 (by omega) (emod_trans hz2 hz)) n hn hne)]
      · rw [if_neg hne, if_neg (fun c => hne (cof_dvd hd n _ hn c))]
  have s2 : smT (fun e => if cof d n % e = 0 then w e else 0) n.toNat = dvW w (cof d n) := by
    unfold dvW
    have e : n.toNat = (cof d n).toNat + (n.toNat - (cof d n).toNat) := by omega
    rw [e]
    refine smT_zero _ _ fun e e1 e2 => ?_
    refine if_neg fun c => ?_
    have := Int.le_of_dvd c1 (Int.dvd_of_emod_eq_zero c)
    omega
  have s3 : smT (fun e => if e % d = 0 then (if n % e = 0 then w e else 0) else 0) n.toNat = w d * dvW w (n / d) := by
    have hb := smT_blocks (D := d.toNat) (by omega) (fun e => if n % e = 0 then w e else 0) (n / d).toNat
    rw [show ((d.toNat : Nat) : Int) = d by omega] at hb
    have e : n.toNat = d.toNat * (n / d).toNat := by
      have : ((d.toNat * (n / d).toNat : Nat) : Int) = n := by
        rw [Int.natCast_mul, show ((d.toNat : Nat) : Int) = d by omega, show (((n / d).toNat : Nat) : Int) = n / d by omega]; exact hq
      omega
    rw [e, hb]
    unfold dvW
    rw [← smT_mul]
    refine smT_congr _ fun f f1 f2 => ?_
    have hiff : n % (d * (f : Int)) = 0 ↔ n / d % (f : Int) = 0 := by
      constructor
      · intro h
        obtain ⟨r, hr⟩ := Int.dvd_of_emod_eq_zero h
        refine Int.emod_eq_zero_of_dvd ⟨r, ?_⟩
        rw [hr, Int.mul_assoc]
        exact Int.mul_ediv_cancel_left _ (by omega)
      · intro h
        obtain ⟨r, hr⟩ := Int.dvd_of_emod_eq_zero h
        refine Int.emod_eq_zero_of_dvd ⟨r, ?_⟩
        rw [Int.mul_assoc, ← hr]
        exact hq.symm
    by_cases c : n / d % (f : Int) = 0
    · rw [if_pos c, if_pos (hiff.2 c), hw]
    · rw [if_neg c, if_neg (fun x => c (hiff.1 x)), Int.mul_zero]
  rw [s1, smT_add, s2, s3]

theorem dvW_tms {w : Int → Int} (hw : ∀ a b, w (a * b) = w a * w b) {g : Int → Nat → Int} (g0 : ∀ d, g d 0 = 1) (gs : ∀ d t, g d (t + 1) = g d t * w d + 1) {d : Int} (hd : 2 ≤ d) : ∀ n, 0 < n → Rough d n → dvW w n = g d (tms d n) * dvW w (cof d n) := by
  refine cof_ind hd (P := fun n => Rough d n → dvW w n = g d (tms d n) * dvW w (cof d n)) ?_ ?_
  · intro n hn h hr
    rw [tms_end h, cof_end h, g0, Int.one_mul]
  · intro n hn h ih hr
    have ih2 := ih (fun e h2 h3 hz => hr e h2 h3 (emod_trans hz (Int.emod_eq_zero_of_dvd ⟨d, by rw [Int.mul_comm]; exact (quo_mul h).symm⟩)))
    rw [dvW_step hw hd hn hr h, ih2, tms_step hd hn h, cof_step hd hn h, gs]
    grind
theorem dvW_G {w : Int → Int} (hw : ∀ a b, w (a * b) = w a * w b) (w1 : w 1 = 1) {g : Int → Nat → Int} (g0 : ∀ d, g d 0 = 1) (gs : ∀ d t, g d (t + 1) = g d t * w d + 1) : ∀ (k : Nat) (d n : Int), 2 ≤ d → 0 < n → Rough d n → n < d + k → dvW w n = mlG g (pws d n)
  | 0, d, n, hd, hn, hr, hk => by
    obtain rfl := hr.one hn (by omega)
    rw [pws_one hd]
    simp [dvW, smT, mlG, w1]
  | k + 1, d, n, hd, hn, hr, hk => by
    obtain ⟨c1, c2⟩ := cof_pos hd n hn
    rw [G_step g0 hd hn hr, dvW_tms hw g0 gs hd n hn hr, dvW_G hw w1 g0 gs k (d + 1) (cof d n) (by omega) c1 (hr.next hd hn) (by omega)]
theorem sgL_all {n : Int} (hn : 0 < n) : dvW (fun e => e) n = sgL (pp n) := by
  rw [sgL_G]
  exact dvW_G (fun _ _ => rfl) rfl (fun _ => rfl) (fun _ _ => rfl) n.toNat 2 n (by omega) hn (Rough.two n) (by omega)
theorem ctL_all {n : Int} (hn : 0 < n) : dvW (fun _ => 1) n = ctL (pp n) := by
  rw [ctL_G]
  exact dvW_G (fun _ _ => by simp) rfl (fun _ => by simp) (fun _ _ => by simp) n.toNat 2 n (by omega) hn (Rough.two n) (by omega)

/-- Every factor is prime. -/
theorem pws_prime : ∀ d n, 2 ≤ d → 0 < n → Rough d n → ∀ p ∈ pws d n, Rough p.1 p.1 := by
  refine pws_ind (P := fun d n => Rough d n → ∀ p ∈ pws d n, Rough p.1 p.1) ?_ ?_ ?_
  · intro d n hd h ht ih hr p hp
    have hn : 0 < n := by have := sq_less hd h; omega
    rw [pws_hit hd h ht] at hp
    rcases List.mem_cons.1 hp with rfl | hp
    · intro e h2 h3 hz
      by_cases c : n % d = 0
      · exact hr e h2 h3 (emod_trans hz c)
      · rw [tms_end c] at ht; omega
    · exact ih (hr.next hd hn) p hp
  · intro d n hd h ht ih hr p hp
    have hn : 0 < n := by have := sq_less hd h; omega
    rw [pws_miss hd h ht] at hp
    exact ih (hr.next hd hn) p hp
  · intro d n hd hn h hr p hp
    by_cases h1 : 1 < n
    · rw [pws_last h h1] at hp
      rw [List.mem_singleton.1 hp]
      intro e h2 h3 hz
      dsimp only at h3 hz ⊢
      have hq := quo_mul hz
      have hqp := quo_pos h2 hn hz
      have hed : d ≤ e := by
        by_cases c : d ≤ e
        · exact c
        · exact absurd hz (hr e h2 (by omega))
      have hq2 : 2 ≤ n / e := by
        by_cases c : n / e = 1
        · rw [c] at hq; omega
        · omega
      have hqd : n / e < d := by
        by_cases c : d ≤ n / e
        · have := Int.mul_le_mul hed c (by omega) (by omega); omega
        · omega
      exact hr (n / e) hq2 hqd (Int.emod_eq_zero_of_dvd ⟨e, by rw [Int.mul_comm]; exact hq.symm⟩)
    · rw [pws_none h h1] at hp; cases hp
theorem prime_fac {p : Int} (h2 : 2 ≤ p) (h : Rough p p) : fac p = [p] := by
  have hs : ¬ p * p ≤ p := by
    have := Int.mul_le_mul_of_nonneg_left h2 (show 0 ≤ p by omega)
    omega
  unfold fac pp
  rw [pws_from (n := p) (d := 2) (e := p) (by omega) (by omega) h2 h, pws_last hs (by omega)]
  rfl
theorem flt_mem {l : List (Int × Nat)} {x : Int} (h : x ∈ flt l) : ∃ p ∈ l, p.1 = x := by
  induction l with
  | nil => cases h
  | cons p t ih =>
    rw [flt] at h
    rcases List.mem_append.1 h with h | h
    · exact ⟨p, by simp, (List.eq_of_mem_replicate h).symm⟩
    · obtain ⟨q, h1, h2⟩ := ih h
      exact ⟨q, by simp [h1], h2⟩
/-- The factors of a number: prime, none below one ahead of it, and their product is the number. -/
theorem fac_prime {n x : Int} (hn : 0 < n) (h : x ∈ fac n) : fac x = [x] ∧ 2 ≤ x := by
  obtain ⟨p, h1, rfl⟩ := flt_mem h
  have h2 := (pp_two hn p h1).1
  exact ⟨prime_fac h2 (pws_prime 2 n (by omega) hn (Rough.two n) p h1), h2⟩
theorem up_flt : ∀ (l : List (Int × Nat)) (d : Int), Up d l → (flt l).Pairwise (fun a b => a ≤ b) ∧ ∀ x ∈ flt l, d ≤ x
  | [], d, _ => by simp [flt]
  | p :: t, d, h => by
    obtain ⟨ih1, ih2⟩ := up_flt t (p.1 + 1) h.2.2
    rw [flt]
    refine ⟨List.pairwise_append.2 ⟨?_, ih1, fun a ha b hb => ?_⟩, fun x hx => ?_⟩
    · rw [List.pairwise_replicate]; exact .inr (Int.le_refl _)
    · rw [List.eq_of_mem_replicate ha]; have := ih2 b hb; omega
    · rcases List.mem_append.1 hx with hx | hx
      · rw [List.eq_of_mem_replicate hx]; exact h.1
      · have := ih2 x hx; have := h.1; omega
theorem fac_rise {n : Int} (hn : 0 < n) : (fac n).Pairwise (fun a b => a ≤ b) := (up_flt _ 2 (pp_up hn)).1
def pdL : List Int → Int
  | [] => 1
  | x :: t => x * pdL t
theorem pdL_app (a b : List Int) : pdL (a ++ b) = pdL a * pdL b := by
  induction a with
  | nil => simp [pdL]
  | cons x t ih => rw [List.cons_append, pdL, pdL, ih, Int.mul_assoc]
theorem pdL_rep (x : Int) : ∀ t, pdL (List.replicate t x) = x ^ t
  | 0 => by simp [pdL]
  | t + 1 => by rw [List.replicate_succ, pdL, pdL_rep x t, Int.pow_succ, Int.mul_comm]
theorem pdL_flt : ∀ l, pdL (flt l) = valP l
  | [] => rfl
  | p :: t => by rw [flt, pdL_app, pdL_rep, pdL_flt t, valP]
theorem fac_prod {n : Int} (hn : 0 < n) : pdL (fac n) = n := by unfold fac; rw [pdL_flt, pp_val hn]

end Go.Proofs.Ytlpmfapjgmhbhaa
