/-
  Numbers whose digits never fall, and the least one of a kind: plain mathematics.
-/
import Derived.Test.YtedpplonclonkaaWB
namespace Go.Proofs.Ytedpplonclonkaa
open Go.RowKit
set_option linter.unusedVariables false
set_option linter.unusedSimpArgs false

theorem split_div {b q x : Int} (hb : 2 ≤ b) (h0 : 0 ≤ x) (h1 : x < b) : (q * b + x) / b = q ∧ (q * b + x) % b = x := by
  constructor
  · rw [Int.add_comm, Int.add_mul_ediv_right _ _ (by omega), Int.ediv_eq_zero_of_lt h0 h1]; omega
  · rw [Int.add_comm, Int.add_mul_emod_self_right, Int.emod_eq_of_lt h0 h1]

/-- The digits never fall, and none is 0; nothing else is asked of 0. -/
def ris (b n : Int) : Bool := if h : 2 ≤ b ∧ 0 < n then ris b (n / b) && decide (n / b % b ≤ n % b) && decide (1 ≤ n % b) else true
termination_by n.toNat
decreasing_by
  have := div_less h.1 h.2
  omega

theorem ris_zero (b : Int) : ris b 0 = true := by rw [ris, dif_neg (by omega)]
theorem ris_iff {b n : Int} (hb : 2 ≤ b) (h : 0 < n) : ris b n = true ↔ ris b (n / b) = true ∧ n / b % b ≤ n % b ∧ 1 ≤ n % b := by
  rw [ris, dif_pos ⟨hb, h⟩]; simp [and_assoc]
theorem ris_up {b n : Int} (hb : 2 ≤ b) (h0 : 0 ≤ n) (h : ris b n = true) : ris b (n / b) = true := by
  by_cases hn : 0 < n
  · exact ((ris_iff hb hn).1 h).1
  · have : n = 0 := by omega
    subst this; simpa using h
theorem ris_mk {b q x : Int} (hb : 2 ≤ b) (h0 : 0 ≤ q) (hq : ris b q = true) (hx : q % b ≤ x) (h1 : 1 ≤ x) (h2 : x < b) : ris b (q * b + x) = true := by
  obtain ⟨s1, s2⟩ := split_div (q := q) hb (by omega) h2
  have : 0 ≤ q * b := Int.mul_nonneg h0 (by omega)
  rw [ris_iff hb (by omega), s1, s2]
  exact ⟨hq, hx, h1⟩

/-- Each digit raised to the greatest one before it. -/
def cm (b n : Int) : Int := if h : 2 ≤ b ∧ b ≤ n then cm b (n / b) * b + max (cm b (n / b) % b) (n % b) else n
termination_by n.toNat
decreasing_by
  all_goals
    have := div_lt b n h.1 h.2
    omega

theorem cm_big {b n : Int} (hb : 2 ≤ b) (h : b ≤ n) : cm b n = cm b (n / b) * b + max (cm b (n / b) % b) (n % b) := by
  rw [cm, dif_pos ⟨hb, h⟩]
theorem cm_small {b n : Int} (h : ¬ b ≤ n) : cm b n = n := by
  rw [cm, dif_neg (fun c => h c.2)]

theorem cm_ris {b : Int} (hb : 2 ≤ b) : ∀ (k : Nat) (n : Int), n.toNat ≤ k → 0 ≤ n → ris b n = true → cm b n = n := by
  intro k
  induction k with
  | zero => intro n hk h0 h; exact cm_small (by omega)
  | succ k ih =>
    intro n hk h0 h
    by_cases hn : b ≤ n
    · have h2 := div_lt b n hb hn
      obtain ⟨r1, r2, r3⟩ := (ris_iff hb (by omega)).1 h
      rw [cm_big hb hn, ih _ (by omega) h2.1 r1, Int.max_eq_right r2, Int.mul_comm]
      exact (div_mod b n).symm
    · exact cm_small hn

/-- The next number whose digits never fall. -/
def nr (b n : Int) : Int := cm b (n + 1)

theorem nr_spec {b : Int} (hb : 2 ≤ b) : ∀ (k : Nat) (n : Int), n.toNat ≤ k → 0 ≤ n → ris b n = true →
    n < nr b n ∧ nr b n ≤ b * (n + 1) ∧ ris b (nr b n) = true ∧ ∀ m, n < m → ris b m = true → nr b n ≤ m := by
  intro k
  induction k with
  | zero =>
    intro n hk h0 h
    obtain rfl : n = 0 := by omega
    have e : nr b 0 = 1 := cm_small (by omega)
    rw [e]
    refine ⟨by omega, by omega, ?_, fun m hm _ => by omega⟩
    have := ris_mk (b := b) (q := 0) (x := 1) hb (by omega) (ris_zero b) (by simp) (by omega) (by omega)
    simpa using this
  | succ k ih =>
    intro n hk h0 h
    by_cases hz : n = 0
    · subst hz; exact ih 0 (by omega) h0 h
    have hpos : 0 < n := by omega
    obtain ⟨r1, r2, r3⟩ := (ris_iff hb hpos).1 h
    obtain ⟨m0, m1⟩ := mod_bd b n hb
    have h6 := div_mod b n
    have h7 := div_less hb hpos
    obtain ⟨q, hq⟩ : ∃ q, q = n / b := ⟨_, rfl⟩
    obtain ⟨d, hd⟩ : ∃ d, d = n % b := ⟨_, rfl⟩
    rw [← hq] at r1 r2 h6 h7
    rw [← hd] at r2 r3 m0 m1 h6
    clear hq hd
    have hn : n = q * b + d := by rw [h6, Int.mul_comm]
    by_cases hd : d < b - 1
    · have hn1 : n + 1 = q * b + (d + 1) := by omega
      have hr := ris_mk hb h7.1 r1 (show q % b ≤ d + 1 by omega) (by omega) (by omega)
      rw [← hn1] at hr
      have e : nr b n = n + 1 := cm_ris hb _ (n + 1) (Nat.le_refl _) (by omega) hr
      rw [e]
      refine ⟨by omega, ?_, hr, fun m hm _ => by omega⟩
      have : 1 * (n + 1) ≤ b * (n + 1) := Int.mul_le_mul_of_nonneg_right (by omega) (by omega)
      omega
    · have hd' : d = b - 1 := by omega
      have hn1 : n + 1 = (q + 1) * b + 0 := by rw [hn, hd']; rw [Int.add_mul]; omega
      obtain ⟨s1, s2⟩ := split_div (b := b) (q := q + 1) (x := 0) hb (by omega) (by omega)
      have hbig : b ≤ n + 1 := by
        have : 0 ≤ q * b := Int.mul_nonneg h7.1 (by omega)
        omega
      obtain ⟨i1, i2, i3, i4⟩ := ih q (by omega) h7.1 r1
      have e : nr b n = nr b q * b + nr b q % b := by
        obtain ⟨t0, t1⟩ := mod_bd b (cm b (q + 1)) hb
        have : nr b n = cm b (n + 1) := rfl
        rw [this, cm_big hb hbig, hn1, s1, s2, Int.max_eq_left t0]
        rfl
      obtain ⟨t0, t1⟩ := mod_bd b (nr b q) hb
      have hqp : 0 < nr b q := by omega
      have t2 := ((ris_iff hb hqp).1 i3).2.2
      have g1 : (q + 1) * b ≤ nr b q * b := Int.mul_le_mul_of_nonneg_right (by omega) (by omega)
      rw [Int.add_mul] at g1
      rw [e]
      refine ⟨by omega, ?_, ris_mk hb (by omega) i3 (Int.le_refl _) t2 t1, ?_⟩
      · have g2 : nr b q * b ≤ b * (q + 1) * b := Int.mul_le_mul_of_nonneg_right i2 (by omega)
        by_cases hq0 : q = 0
        · subst hq0
          have e1 : nr b 0 = 1 := cm_small (by omega)
          rw [e1]
          have h1b : (1 : Int) % b = 1 := Int.emod_eq_of_lt (by omega) (by omega)
          rw [h1b, hn1]
          have : 2 * b ≤ b * b := Int.mul_le_mul_of_nonneg_right hb (by omega)
          rw [show b * ((0 + 1) * b + 0) = b * b by grind]
          omega
        · have hqlt : nr b q ≤ b * (q + 1) - 1 := by
            by_cases he : nr b q = b * (q + 1)
            · rw [he, Int.mul_emod_right] at t2; omega
            · omega
          have g3 : nr b q * b ≤ (b * (q + 1) - 1) * b := Int.mul_le_mul_of_nonneg_right hqlt (by omega)
          have g4 : (b * (q + 1) - 1) * b = b * (n + 1) - b := by rw [hn1, Int.sub_mul]; grind
          omega
      · intro m hm hrm
        obtain ⟨u1, u2, u3⟩ := (ris_iff hb (show 0 < m by omega)).1 hrm
        have h8 := div_mod b m
        obtain ⟨v0, v1⟩ := mod_bd b m hb
        obtain ⟨p, hp⟩ : ∃ p, p = m / b := ⟨_, rfl⟩
        rw [← hp] at u1 u2 h8
        rw [Int.mul_comm] at h8
        have hpq : q < p := by
          by_cases hc : p ≤ q
          · have : p * b ≤ q * b := Int.mul_le_mul_of_nonneg_right hc (by omega)
            omega
          · omega
        have hge := i4 p hpq u1
        by_cases heq : nr b q = p
        · rw [heq]; omega
        · have : (nr b q + 1) * b ≤ p * b := Int.mul_le_mul_of_nonneg_right (by omega) (by omega)
          rw [Int.add_mul] at this
          omega

/-- The first digits, the last j left out. -/
def sh (b : Int) : Nat → Int → Int
  | 0, m => m
  | j + 1, m => sh b j m / b

theorem sh_nn {b : Int} (hb : 2 ≤ b) {m : Int} (h : 0 ≤ m) : ∀ j, 0 ≤ sh b j m
  | 0 => h
  | j + 1 => Int.ediv_nonneg (sh_nn hb h j) (by omega)
theorem sh_ris {b : Int} (hb : 2 ≤ b) {m : Int} (h : 0 ≤ m) (hr : ris b m = true) : ∀ j, ris b (sh b j m) = true
  | 0 => hr
  | j + 1 => ris_up hb (sh_nn hb h j) (sh_ris hb h hr j)
theorem sh_ge {b : Int} (hb : 2 ≤ b) {m : Int} (h : 0 ≤ m) : ∀ j, sh b j m ≤ m
  | 0 => Int.le_refl _
  | j + 1 => by
    have h1 := sh_ge hb h j
    have h2 := sh_nn hb h j
    have h3 := div_half b (sh b j m) hb h2
    rw [sh]; omega

/-- m goes on a number n by digits that never fall, of at least least. -/
def Ext (b n least m : Int) : Prop := ris b m = true ∧ 0 < m ∧ ∃ j, sh b (j + 1) m = n ∧ least ≤ sh b j m % b

theorem ext_split {b n least m : Int} (hb : 2 ≤ b) (h : Ext b n least m) : ∃ x, least ≤ x ∧ x < b ∧ (m = n * b + x ∨ Ext b (n * b + x) x m) := by
  obtain ⟨hr, hm, j, h1, h2⟩ := h
  have h3 : sh b j m / b = n := h1
  have h4 := div_mod b (sh b j m)
  rw [h3, Int.mul_comm] at h4
  refine ⟨sh b j m % b, h2, (mod_bd b _ hb).2, ?_⟩
  cases j with
  | zero => exact .inl h4
  | succ j =>
    refine .inr ⟨hr, hm, j, h4, ?_⟩
    by_cases hp : 0 < sh b j m
    · exact ((ris_iff hb hp).1 (sh_ris hb (by omega) hr j)).2.1
    · have : sh b j m = 0 := by have := sh_nn hb (show 0 ≤ m by omega) j; omega
      rw [show sh b (j + 1) m = sh b j m / b from rfl, this]; simp

theorem ext_one {b n least x : Int} (hb : 2 ≤ b) (h0 : 0 ≤ n) (hn : ris b n = true) (hl : n % b ≤ least) (h1 : 1 ≤ least) (hx : least ≤ x) (hx' : x < b) : Ext b n least (n * b + x) := by
  obtain ⟨s1, s2⟩ := split_div (q := n) hb (show 0 ≤ x by omega) hx'
  have : 0 ≤ n * b := Int.mul_nonneg h0 (by omega)
  exact ⟨ris_mk hb h0 hn (by omega) (by omega) hx', by omega, 0, s1, by rw [sh, s2]; exact hx⟩

theorem ext_more {b n least x m : Int} (hb : 2 ≤ b) (h1 : 1 ≤ least) (hx : least ≤ x) (hx' : x < b) (h : Ext b (n * b + x) x m) : Ext b n least m := by
  obtain ⟨hr, hm, j, e1, e2⟩ := h
  obtain ⟨s1, s2⟩ := split_div (q := n) hb (show 0 ≤ x by omega) hx'
  exact ⟨hr, hm, j + 1, by rw [sh, e1, s1], by rw [e1, s2]; exact hx⟩

theorem ext_ge {b n x m : Int} (hb : 2 ≤ b) (h : Ext b n x m) : n ≤ m := by
  obtain ⟨hr, hm, j, e1, e2⟩ := h
  rw [← e1]; exact sh_ge hb (by omega) _

theorem ext_top {b m : Int} (hb : 2 ≤ b) (hm : 0 < m) (hr : ris b m = true) : Ext b 0 1 m := by
  have key : ∀ (k : Nat) (j : Nat), (sh b j m).toNat ≤ k → 0 < sh b j m → ∃ j, sh b (j + 1) m = 0 ∧ 1 ≤ sh b j m % b := by
    intro k
    induction k with
    | zero => intro j hk hp; omega
    | succ k ih =>
      intro j hk hp
      by_cases hz : sh b (j + 1) m = 0
      · exact ⟨j, hz, ((ris_iff hb hp).1 (sh_ris hb (by omega) hr j)).2.2⟩
      · have h1 := sh_nn hb (show 0 ≤ m by omega) (j + 1)
        have h2 := div_less hb hp
        exact ih (j + 1) (by rw [sh]; omega) (by omega)
  obtain ⟨j, h1, h2⟩ := key _ 0 (Nat.le_refl _) hm
  exact ⟨hr, hm, j, h1, h2⟩

/-- The least number of a kind among those of S, or 0. -/
def IsM (P : Int → Bool) (S : Int → Prop) (r : Int) : Prop := (r = 0 ∧ ∀ m, S m → P m = false) ∨ (0 < r ∧ S r ∧ P r = true ∧ ∀ m, S m → P m = true → r ≤ m)

theorem IsM.same {P : Int → Bool} {S : Int → Prop} {r t : Int} (h1 : IsM P S r) (h2 : IsM P S t) : r = t := by
  rcases h1 with ⟨a1, a2⟩ | ⟨a1, a2, a3, a4⟩ <;> rcases h2 with ⟨c1, c2⟩ | ⟨c1, c2, c3, c4⟩
  · omega
  · have := a2 t c2; rw [c3] at this; cases this
  · have := c2 r a2; rw [a3] at this; cases this
  · exact Int.le_antisymm (a4 t c2 c3) (c4 r a2 a3)

theorem IsM.congr {P : Int → Bool} {S T : Int → Prop} {r : Int} (h : IsM P S r) (he : ∀ m, S m ↔ T m) : IsM P T r := by
  rcases h with ⟨a1, a2⟩ | ⟨a1, a2, a3, a4⟩
  · exact .inl ⟨a1, fun m hm => a2 m ((he m).2 hm)⟩
  · exact .inr ⟨a1, (he r).1 a2, a3, fun m hm => a4 m ((he m).2 hm)⟩

/-- Those up to most that go on n, by a first digit less than d. -/
def Sd (b n least most d m : Int) : Prop := m ≤ most ∧ ∃ x, least ≤ x ∧ x < d ∧ x < b ∧ (m = n * b + x ∨ Ext b (n * b + x) x m)
def St (b n least most m : Int) : Prop := m ≤ most ∧ Ext b n least m

theorem sd_all {b n least most : Int} (hb : 2 ≤ b) (h0 : 0 ≤ n) (hn : ris b n = true) (hl : n % b ≤ least) (h1 : 1 ≤ least) {d : Int} (hd : b ≤ d) (m : Int) : Sd b n least most d m ↔ St b n least most m := by
  constructor
  · rintro ⟨a, x, c1, c2, c3, c4⟩
    refine ⟨a, ?_⟩
    rcases c4 with rfl | c4
    · exact ext_one hb h0 hn hl h1 c1 c3
    · exact ext_more hb h1 c1 c3 c4
  · rintro ⟨a, c⟩
    obtain ⟨x, c1, c2, c3⟩ := ext_split hb c
    exact ⟨a, x, c1, by omega, c2, c3⟩

theorem sd_ge {b n least most d x m : Int} (hb : 2 ≤ b) (hx : d ≤ x) (h : m = n * b + x ∨ Ext b (n * b + x) x m) : n * b + d ≤ m := by
  rcases h with rfl | h
  · omega
  · have := ext_ge hb h; omega

theorem isM_start {b n least most : Int} (P : Int → Bool) : IsM P (Sd b n least most least) 0 :=
  .inl ⟨rfl, fun m ⟨_, x, h1, h2, _⟩ => by omega⟩

theorem isM_break {b n least most d best : Int} {P : Int → Bool} (hb : 2 ≤ b) (h : IsM P (Sd b n least most d) best) (hd : d ≤ b) (hbr : most < n * b + d ∨ (0 < best ∧ best < n * b + d)) : IsM P (Sd b n least most b) best := by
  rcases h with ⟨a1, a2⟩ | ⟨a1, ⟨a2, x, y1, y2, y3, y4⟩, a3, a4⟩
  · refine .inl ⟨a1, fun m ⟨hm, x, h1, h2, h3, h4⟩ => ?_⟩
    by_cases hx : x < d
    · exact a2 m ⟨hm, x, h1, hx, h3, h4⟩
    · have := sd_ge (most := most) (least := least) hb (show d ≤ x by omega) h4
      omega
  · refine .inr ⟨a1, ⟨a2, x, y1, by omega, y3, y4⟩, a3, fun m ⟨hm, x, h1, h2, h3, h4⟩ hp => ?_⟩
    by_cases hx : x < d
    · exact a4 m ⟨hm, x, h1, hx, h3, h4⟩ hp
    · have := sd_ge (most := most) (least := least) hb (show d ≤ x by omega) h4
      omega

theorem isM_hit {b n least most d best : Int} {P : Int → Bool} (hb : 2 ≤ b) (h0 : 0 ≤ n) (h1 : 1 ≤ d) (hl : least ≤ d) (h : IsM P (Sd b n least most d) best) (hd : d < b) (hm : n * b + d ≤ most) (hbe : best = 0 ∨ n * b + d ≤ best) (hp : P (n * b + d) = true) : IsM P (Sd b n least most (d + 1)) (n * b + d) := by
  have : 0 ≤ n * b := Int.mul_nonneg h0 (by omega)
  refine .inr ⟨by omega, ⟨hm, d, hl, by omega, hd, .inl rfl⟩, hp, fun m ⟨hm, x, h1, h2, h3, h4⟩ hpm => ?_⟩
  by_cases hx : x < d
  · rcases h with ⟨a1, a2⟩ | ⟨a1, a2, a3, a4⟩
    · have := a2 m ⟨hm, x, h1, hx, h3, h4⟩; rw [hpm] at this; cases this
    · have := a4 m ⟨hm, x, h1, hx, h3, h4⟩ hpm; omega
  · exact sd_ge (most := most) (least := least) hb (by omega) h4

theorem isM_rest {b n least most d best longer : Int} {P : Int → Bool} (hb : 2 ≤ b) (h : IsM P (Sd b n least most d) best) (hd : d < b) (hl : least ≤ d) (hp : P (n * b + d) = false)
    (hlo : IsM P (St b (n * b + d) d most) longer) : IsM P (Sd b n least most (d + 1)) (if 0 < longer ∧ (best = 0 ∨ longer < best) then longer else best) := by
  have part : ∀ m, Sd b n least most (d + 1) m → P m = true → Sd b n least most d m ∨ St b (n * b + d) d most m := by
    rintro m ⟨hm, x, h1, h2, h3, h4⟩ hpm
    by_cases hx : x < d
    · exact .inl ⟨hm, x, h1, hx, h3, h4⟩
    · obtain rfl : x = d := by omega
      rcases h4 with rfl | h4
      · rw [hp] at hpm; cases hpm
      · exact .inr ⟨hm, h4⟩
  have grow : ∀ m, Sd b n least most d m → Sd b n least most (d + 1) m := fun m ⟨hm, x, h1, h2, h3, h4⟩ => ⟨hm, x, h1, by omega, h3, h4⟩
  have grow2 : ∀ m, St b (n * b + d) d most m → Sd b n least most (d + 1) m := fun m ⟨hm, h4⟩ => ⟨hm, d, hl, by omega, hd, .inr h4⟩
  have no : ∀ {m : Int}, P m = false → ¬ P m = true := fun h1 h2 => by rw [h1] at h2; cases h2
  rcases hlo with ⟨l1, l2⟩ | ⟨l1, l2, l3, l4⟩
  · rw [if_neg (by omega)]
    rcases h with ⟨a1, a2⟩ | ⟨a1, a2, a3, a4⟩
    · refine .inl ⟨a1, fun m hm => ?_⟩
      cases hq : P m with
      | false => rfl
      | true => rcases part m hm hq with h | h
                · exact absurd hq (no (a2 m h))
                · exact absurd hq (no (l2 m h))
    · refine .inr ⟨a1, grow _ a2, a3, fun m hm hq => ?_⟩
      rcases part m hm hq with h | h
      · exact a4 m h hq
      · exact absurd hq (no (l2 m h))
  · by_cases hc : 0 < longer ∧ (best = 0 ∨ longer < best)
    · rw [if_pos hc]
      refine .inr ⟨l1, grow2 _ l2, l3, fun m hm hq => ?_⟩
      rcases part m hm hq with h' | h'
      · rcases h with ⟨a1, a2⟩ | ⟨a1, a2, a3, a4⟩
        · exact absurd hq (no (a2 m h'))
        · have := a4 m h' hq; omega
      · exact l4 m h' hq
    · rw [if_neg hc]
      rcases h with ⟨a1, a2⟩ | ⟨a1, a2, a3, a4⟩
      · omega
      · refine .inr ⟨a1, grow _ a2, a3, fun m hm hq => ?_⟩
        rcases part m hm hq with h' | h'
        · exact a4 m h' hq
        · have := l4 m h' hq; omega

end Go.Proofs.Ytedpplonclonkaa
