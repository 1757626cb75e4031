/-
  Joint text of WP WQ WK (written by wip/tools/merge.py).
-/
import Derived.Test.YtgiabadkbfbilaaA1
import Derived.Test.YtgiabadkbfbilaaZ
import Derived.Test.YtgiabadkbfbilaaA7
import Derived.Test.YtgiabadkbfbilaaA
import Derived.BigRegion
/- from XWP -/
namespace Go.Proofs.Ytgiabadkbfbilaa
open Go.RowKit
set_option linter.unusedVariables false
set_option linter.unusedSimpArgs false

theorem split_div {b q x : Int} (hb : 2 ≤ b) (h0 : 0 ≤ x) (h1 : x < b) : (q * b + x) / b = q ∧ (q * b + x) % b = x := by
  constructor
  · rw [Int.add_comm, Int.add_mul_ediv_right _ _ (by omega), Int.ediv_eq_zero_of_lt h0 h1]; omega
  · rw [Int.add_comm, Int.add_mul_emod_self_right, Int.emod_eq_of_lt h0 h1]

/-- The digits never fall, and none is 0; nothing else is asked of 0. -/
def ris (b n : Int) : Bool := if h : 2 ≤ b ∧ 0 < n then ris b (n / b) && decide (n / b % b ≤ n % b) && decide (1 ≤ n % b) else true
termination_by n.toNat
decreasing_by
  have := div_less h.1 h.2
  omega

theorem ris_zero (b : Int) : ris b 0 = true := by rw [ris, dif_neg (by omega)]
theorem ris_iff {b n : Int} (hb : 2 ≤ b) (h : 0 < n) : ris b n = true ↔ ris b (n / b) = true ∧ n / b % b ≤ n % b ∧ 1 ≤ n % b := by
  rw [ris, dif_pos ⟨hb, h⟩]; simp [and_assoc]
theorem ris_up {b n : Int} (hb : 2 ≤ b) (h0 : 0 ≤ n) (h : ris b n = true) : ris b (n / b) = true := by
  by_cases hn : 0 < n
  · exact ((ris_iff hb hn).1 h).1
  · have : n = 0 := by omega
    subst this; simpa using h
theorem ris_mk {b q x : Int} (hb : 2 ≤ b) (h0 : 0 ≤ q) (hq : ris b q = true) (hx : q % b ≤ x) (h1 : 1 ≤ x) (h2 : x < b) : ris b (q * b + x) = true := by
  obtain ⟨s1, s2⟩ := split_div (q := q) hb (by omega) h2
  have : 0 ≤ q * b := Int.mul_nonneg h0 (by omega)
  rw [ris_iff hb (by omega), s1, s2]
  exact ⟨hq, hx, h1⟩

/-- Each digit raised to the greatest one before it. -/
def cm (b n : Int) : Int := if h : 2 ≤ b ∧ b ≤ n then cm b (n / b) * b + max (cm b (n / b) % b) (n % b) else n
termination_by n.toNat
decreasing_by
  all_goals
    have := div_lt b n h.1 h.2
    omega

theorem cm_big {b n : Int} (hb : 2 ≤ b) (h : b ≤ n) : cm b n = cm b (n / b) * b + max (cm b (n / b) % b) (n % b) := by
  rw [cm, dif_pos ⟨hb, h⟩]
theorem cm_small {b n : Int} (h : ¬ b ≤ n) : cm b n = n := by
  rw [cm, dif_neg (fun c => h c.2)]

theorem cm_ris {b : Int} (hb : 2 ≤ b) : ∀ (k : Nat) (n : Int), n.toNat ≤ k → 0 ≤ n → ris b n = true → cm b n = n := by
  intro k
  induction k with
  | zero => intro n hk h0 h; exact cm_small (by omega)
  | succ k ih =>
    intro n hk h0 h
    by_cases hn : b ≤ n
    · have h2 := div_lt b n hb hn
      obtain ⟨r1, r2, r3⟩ := (ris_iff hb (by omega)).1 h
      rw [cm_big hb hn, ih _ (by omega) h2.1 r1, Int.max_eq_right r2, Int.mul_comm]
      exact (div_mod b n).symm
    · exact cm_small hn

/-- The next number whose digits never fall. -/
def nr (b n : Int) : Int := cm b (n + 1)

theorem nr_spec {b : Int} (hb : 2 ≤ b) : ∀ (k : Nat) (n : Int), n.toNat ≤ k → 0 ≤ n → ris b n = true →
    n < nr b n ∧ nr b n ≤ b * (n + 1) ∧ ris b (nr b n) = true ∧ ∀ m, n < m → ris b m = true → nr b n ≤ m := by
  intro k
  induction k with
  | zero =>
    intro n hk h0 h
    obtain rfl : n = 0 := by omega
    have e : nr b 0 = 1 := cm_small (by omega)
    rw [e]
    refine ⟨by omega, by omega, ?_, fun m hm _ => by omega⟩
    have := ris_mk (b := b) (q := 0) (x := 1) hb (by omega) (ris_zero b) (by simp) (by omega) (by omega)
    simpa using this
  | succ k ih =>
    intro n hk h0 h
    by_cases hz : n = 0
    · subst hz; exact ih 0 (by omega) h0 h
    have hpos : 0 < n := by omega
    obtain ⟨r1, r2, r3⟩ := (ris_iff hb hpos).1 h
    obtain ⟨m0, m1⟩ := mod_bd b n hb
    have h6 := div_mod b n
    have h7 := div_less hb hpos
    obtain ⟨q, hq⟩ : ∃ q, q = n / b := ⟨_, rfl⟩
    obtain ⟨d, hd⟩ : ∃ d, d = n % b := ⟨_, rfl⟩
    rw [← hq] at r1 r2 h6 h7
    rw [← hd] at r2 r3 m0 m1 h6
    clear hq hd
    have hn : n = q * b + d := by rw [h6, Int.mul_comm]
    by_cases hd : d < b - 1
    · have hn1 : n + 1 = q * b + (d + 1) := by omega
      have hr := ris_mk hb h7.1 r1 (show q % b ≤ d + 1 by omega) (by omega) (by omega)
      rw [← hn1] at hr
      have e : nr b n = n + 1 := cm_ris hb _ (n + 1) (Nat.le_refl _) (by omega) hr
      rw [e]
      refine ⟨by omega, ?_, hr, fun m hm _ => by omega⟩
      have : 1 * (n + 1) ≤ b * (n + 1) := Int.mul_le_mul_of_nonneg_right (by omega) (by omega)
      omega
    · have hd' : d = b - 1 := by omega
      have hn1 : n + 1 = (q + 1) * b + 0 := by rw [hn, hd']; rw [Int.add_mul]; omega
      obtain ⟨s1, s2⟩ := split_div (b := b) (q := q + 1) (x := 0) hb (by omega) (by omega)
      have hbig : b ≤ n + 1 := by
        have : 0 ≤ q * b := Int.mul_nonneg h7.1 (by omega)
        omega
      obtain ⟨i1, i2, i3, i4⟩ := ih q (by omega) h7.1 r1
      have e : nr b n = nr b q * b + nr b q % b := by
        obtain ⟨t0, t1⟩ := mod_bd b (cm b (q + 1)) hb
        have : nr b n = cm b (n + 1) := rfl
        rw [this, cm_big hb hbig, hn1, s1, s2, Int.max_eq_left t0]
        rfl
      obtain ⟨t0, t1⟩ := mod_bd b (nr b q) hb
      have hqp : 0 < nr b q := by omega
      have t2 := ((ris_iff hb hqp).1 i3).2.2
      have g1 : (q + 1) * b ≤ nr b q * b := Int.mul_le_mul_of_nonneg_right (by omega) (by omega)
      rw [Int.add_mul] at g1
      rw [e]
      refine ⟨by omega, ?_, ris_mk hb (by omega) i3 (Int.le_refl _) t2 t1, ?_⟩
      · have g2 : nr b q * b ≤ b * (q + 1) * b := Int.mul_le_mul_of_nonneg_right i2 (by omega)
        by_cases hq0 : q = 0
        · subst hq0
          have e1 : nr b 0 = 1 := cm_small (by omega)
          rw [e1]
          have h1b : (1 : Int) % b = 1 := Int.emod_eq_of_lt (by omega) (by omega)
          rw [h1b, hn1]
          have : 2 * b ≤ b * b := Int.mul_le_mul_of_nonneg_right hb (by omega)
          rw [show b * ((0 + 1) * b + 0) = b * b by grind]
          omega
        · have hqlt : nr b q ≤ b * (q + 1) - 1 := by
            by_cases he : nr b q = b * (q + 1)
            · rw [he, Int.mul_emod_right] at t2; omega
            · omega
          have g3 : nr b q * b ≤ (b * (q + 1) - 1) * b := Int.mul_le_mul_of_nonneg_right hqlt (by omega)
          have g4 : (b * (q + 1) - 1) * b = b * (n + 1) - b := by rw [hn1, Int.sub_mul]; grind
          omega
      · intro m hm hrm
        obtain ⟨u1, u2, u3⟩ := (ris_iff hb (show 0 < m by omega)).1 hrm
        have h8 := div_mod b m
        obtain ⟨v0, v1⟩ := mod_bd b m hb
        obtain ⟨p, hp⟩ : ∃ p, p = m / b := ⟨_, rfl⟩
        rw [← hp] at u1 u2 h8
        rw [Int.mul_comm] at h8
        have hpq : q < p := by
          by_cases hc : p ≤ q
          · have : p * b ≤ q * b := Int.mul_le_mul_of_nonneg_right hc (by omega)
            omega
          · omega
        have hge := i4 p hpq u1
        by_cases heq : nr b q = p
        · rw [heq]; omega
        · have : (nr b q + 1) * b ≤ p * b := Int.mul_le_mul_of_nonneg_right (by omega) (by omega)
          rw [Int.add_mul] at this
          omega

/-- The first digits, the last j left out. -/
def sh (b : Int) : Nat → Int → Int
  | 0, m => m
  | j + 1, m => sh b j m / b

theorem sh_nn {b : Int} (hb : 2 ≤ b) {m : Int} (h : 0 ≤ m) : ∀ j, 0 ≤ sh b j m
  | 0 => h
  | j + 1 => Int.ediv_nonneg (sh_nn hb h j) (by omega)
theorem sh_ris {b : Int} (hb : 2 ≤ b) {m : Int} (h : 0 ≤ m) (hr : ris b m = true) : ∀ j, ris b (sh b j m) = true
  | 0 => hr
  | j + 1 => ris_up hb (sh_nn hb h j) (sh_ris hb h hr j)
theorem sh_ge {b : Int} (hb : 2 ≤ b) {m : Int} (h : 0 ≤ m) : ∀ j, sh b j m ≤ m
  | 0 => Int.le_refl _
  | j + 1 => by
    have h1 := sh_ge hb h j
    have h2 := sh_nn hb h j
    have h3 := div_half b (sh b j m) hb h2
    rw [sh]; omega

/-- m goes on a number n by digits that never fall, of at least least. -/
def Ext (b n least m : Int) : Prop := ris b m = true ∧ 0 < m ∧ ∃ j, sh b (j + 1) m = n ∧ least ≤ sh b j m % b

theorem ext_split {b n least m : Int} (hb : 2 ≤ b) (h : Ext b n least m) : ∃ x, least ≤ x ∧ x < b ∧ (m = n * b + x ∨ Ext b (n * b + x) x m) := by
  obtain ⟨hr, hm, j, h1, h2⟩ := h
  have h3 : sh b j m / b = n := h1
  have h4 := div_mod b (sh b j m)
  rw [h3, Int.mul_comm] at h4
  refine ⟨sh b j m % b, h2, (mod_bd b _ hb).2, ?_⟩
  cases j with
  | zero => exact .inl h4
  | succ j =>
    refine .inr ⟨hr, hm, j, h4, ?_⟩
    by_cases hp : 0 < sh b j m
    · exact ((ris_iff hb hp).1 (sh_ris hb (by omega) hr j)).2.1
    · have : sh b j m = 0 := by have := sh_nn hb (show 0 ≤ m by omega) j; omega
      rw [show sh b (j + 1) m = sh b j m / b from rfl, this]; simp

theorem ext_one {b n least x : Int} (hb : 2 ≤ b) (h0 : 0 ≤ n) (hn : ris b n = true) (hl : n % b ≤ least) (h1 : 1 ≤ least) (hx : least ≤ x) (hx' : x < b) : Ext b n least (n * b + x) := by
  obtain ⟨s1, s2⟩ := split_div (q := n) hb (show 0 ≤ x by omega) hx'
  have : 0 ≤ n * b := Int.mul_nonneg h0 (by omega)
  exact ⟨ris_mk hb h0 hn (by omega) (by omega) hx', by omega, 0, s1, by rw [sh, s2]; exact hx⟩

theorem ext_more {b n least x m : Int} (hb : 2 ≤ b) (h1 : 1 ≤ least) (hx : least ≤ x) (hx' : x < b) (h : Ext b (n * b + x) x m) : Ext b n least m := by
  obtain ⟨hr, hm, j, e1, e2⟩ := h
  obtain ⟨s1, s2⟩ := split_div (q := n) hb (show 0 ≤ x by omega) hx'
  exact ⟨hr, hm, j + 1, by rw [sh, e1, s1], by rw [e1, s2]; exact hx⟩

theorem ext_ge {b n x m : Int} (hb : 2 ≤ b) (h : Ext b n x m) : n ≤ m := by
  obtain ⟨hr, hm, j, e1, e2⟩ := h
  rw [← e1]; exact sh_ge hb (by omega) _

theorem ext_top {b m : Int} (hb : 2 ≤ b) (hm : 0 < m) (hr : ris b m = true) : Ext b 0 1 m := by
  have key : ∀ (k : Nat) (j : Nat), (sh b j m).toNat ≤ k → 0 < sh b j m → ∃ j, sh b (j + 1) m = 0 ∧ 1 ≤ sh b j m % b := by
    intro k
    induction k with
    | zero => intro j hk hp; omega
    | succ k ih =>
      intro j hk hp
      by_cases hz : sh b (j + 1) m = 0
      · exact ⟨j, hz, ((ris_iff hb hp).1 (sh_ris hb (by omega) hr j)).2.2⟩
      · have h1 := sh_nn hb (show 0 ≤ m by omega) (j + 1)
        have h2 := div_less hb hp
        exact ih (j + 1) (by rw [sh]; omega) (by omega)
  obtain ⟨j, h1, h2⟩ := key _ 0 (Nat.le_refl _) hm
  exact ⟨hr, hm, j, h1, h2⟩

/-- The least number of a kind among those of S, or 0. -/
def IsM (P : Int → Bool) (S : Int → Prop) (r : Int) : Prop := (r = 0 ∧ ∀ m, S m → P m = false) ∨ (0 < r ∧ S r ∧ P r = true ∧ ∀ m, S m → P m = true → r ≤ m)

theorem IsM.same {P : Int → Bool} {S : Int → Prop} {r t : Int} (h1 : IsM P S r) (h2 : IsM P S t) : r = t := by
  rcases h1 with ⟨a1, a2⟩ | ⟨a1, a2, a3, a4⟩ <;> rcases h2 with ⟨c1, c2⟩ | ⟨c1, c2, c3, c4⟩
  · omega
  · have := a2 t c2; rw [c3] at this; cases this
  · have := c2 r a2; rw [a3] at this; cases this
  · exact Int.le_antisymm (a4 t c2 c3) (c4 r a2 a3)

theorem IsM.congr {P : Int → Bool} {S T : Int → Prop} {r : Int} (h : IsM P S r) (he : ∀ m, S m ↔ T m) : IsM P T r := by
  rcases h with ⟨a1, a2⟩ | ⟨a1, a2, a3, a4⟩
  · exact .inl ⟨a1, fun m hm => a2 m ((he m).2 hm)⟩
  · exact .inr ⟨a1, (he r).1 a2, a3, fun m hm => a4 m ((he m).2 hm)⟩

/-- Those up to most that go on n, by a first digit less than d. -/
def Sd (b n least most d m : Int) : Prop := m ≤ most ∧ ∃ x, least ≤ x ∧ x < d ∧ x < b ∧ (m = n * b + x ∨ Ext b (n * b + x) x m)
def StP (b n least most m : Int) : Prop := m ≤ most ∧ Ext b n least m

theorem sd_all {b n least most : Int} (hb : 2 ≤ b) (h0 : 0 ≤ n) (hn : ris b n = true) (hl : n % b ≤ least) (h1 : 1 ≤ least) {d : Int} (hd : b ≤ d) (m : Int) : Sd b n least most d m ↔ StP b n least most m := by
  constructor
  · rintro ⟨a, x, c1, c2, c3, c4⟩
    refine ⟨a, ?_⟩
    rcases c4 with rfl | c4
    · exact ext_one hb h0 hn hl h1 c1 c3
    · exact ext_more hb h1 c1 c3 c4
  · rintro ⟨a, c⟩
    obtain ⟨x, c1, c2, c3⟩ := ext_split hb c
    exact ⟨a, x, c1, by omega, c2, c3⟩

theorem sd_ge {b n least most d x m : Int} (hb : 2 ≤ b) (hx : d ≤ x) (h : m = n * b + x ∨ Ext b (n * b + x) x m) : n * b + d ≤ m := by
  rcases h with rfl | h
  · omega
  · have := ext_ge hb h; omega

theorem isM_start {b n least most : Int} (P : Int → Bool) : IsM P (Sd b n least most least) 0 :=
  .inl ⟨rfl, fun m ⟨_, x, h1, h2, _⟩ => by omega⟩

theorem isM_break {b n least most d best : Int} {P : Int → Bool} (hb : 2 ≤ b) (h : IsM P (Sd b n least most d) best) (hd : d ≤ b) (hbr : most < n * b + d ∨ (0 < best ∧ best < n * b + d)) : IsM P (Sd b n least most b) best := by
  rcases h with ⟨a1, a2⟩ | ⟨a1, ⟨a2, x, y1, y2, y3, y4⟩, a3, a4⟩
  · refine .inl ⟨a1, fun m ⟨hm, x, h1, h2, h3, h4⟩ => ?_⟩
    by_cases hx : x < d
    · exact a2 m ⟨hm, x, h1, hx, h3, h4⟩
    · have := sd_ge (most := most) (least := least) hb (show d ≤ x by omega) h4
      omega
  · refine .inr ⟨a1, ⟨a2, x, y1, by omega, y3, y4⟩, a3, fun m ⟨hm, x, h1, h2, h3, h4⟩ hp => ?_⟩
    by_cases hx : x < d
    · exact a4 m ⟨hm, x, h1, hx, h3, h4⟩ hp
    · have := sd_ge (most := most) (least := least) hb (show d ≤ x by omega) h4
      omega

theorem isM_hit {b n least most d best : Int} {P : Int → Bool} (hb : 2 ≤ b) (h0 : 0 ≤ n) (h1 : 1 ≤ d) (hl : least ≤ d) (h : IsM P (Sd b n least most d) best) (hd : d < b) (hm : n * b + d ≤ most) (hbe : best = 0 ∨ n * b + d ≤ best) (hp : P (n * b + d) = true) : IsM P (Sd b n least most (d + 1)) (n * b + d) := by
  have : 0 ≤ n * b := Int.mul_nonneg h0 (by omega)
  refine .inr ⟨by omega, ⟨hm, d, hl, by omega, hd, .inl rfl⟩, hp, fun m ⟨hm, x, h1, h2, h3, h4⟩ hpm => ?_⟩
  by_cases hx : x < d
  · rcases h with ⟨a1, a2⟩ | ⟨a1, a2, a3, a4⟩
    · have := a2 m ⟨hm, x, h1, hx, h3, h4⟩; rw [hpm] at this; cases this
    · have := a4 m ⟨hm, x, h1, hx, h3, h4⟩ hpm; omega
  · exact sd_ge (most := most) (least := least) hb (by omega) h4

theorem isM_rest {b n least most d best longer : Int} {P : Int → Bool} (hb : 2 ≤ b) (h : IsM P (Sd b n least most d) best) (hd : d < b) (hl : least ≤ d) (hp : P (n * b + d) = false)
    (hlo : IsM P (StP b (n * b + d) d most) longer) : IsM P (Sd b n least most (d + 1)) (if 0 < longer ∧ (best = 0 ∨ longer < best) then longer else best) := by
  have part : ∀ m, Sd b n least most (d + 1) m → P m = true → Sd b n least most d m ∨ StP b (n * b + d) d most m := by
    rintro m ⟨hm, x, h1, h2, h3, h4⟩ hpm
    by_cases hx : x < d
    · exact .inl ⟨hm, x, h1, hx, h3, h4⟩
    · obtain rfl : x = d := by omega
      rcases h4 with rfl | h4
      · rw [hp] at hpm; cases hpm
      · exact .inr ⟨hm, h4⟩
  have grow : ∀ m, Sd b n least most d m → Sd b n least most (d + 1) m := fun m ⟨hm, x, h1, h2, h3, h4⟩ => ⟨hm, x, h1, by omega, h3, h4⟩
  have grow2 : ∀ m, StP b (n * b + d) d most m → Sd b n least most (d + 1) m := fun m ⟨hm, h4⟩ => ⟨hm, d, hl, by omega, hd, .inr h4⟩
  have no : ∀ {m : Int}, P m = false → ¬ P m = true := fun h1 h2 => by rw [h1] at h2; cases h2
  rcases hlo with ⟨l1, l2⟩ | ⟨l1, l2, l3, l4⟩
  · rw [if_neg (by omega)]
    rcases h with ⟨a1, a2⟩ | ⟨a1, a2, a3, a4⟩
    · refine .inl ⟨a1, fun m hm => ?_⟩
      cases hq : P m with
      | false => rfl
      | true => rcases part m hm hq with h | h
                · exact absurd hq (no (a2 m h))
                · exact absurd hq (no (l2 m h))
    · refine .inr ⟨a1, grow _ a2, a3, fun m hm hq => ?_⟩
      rcases part m hm hq with h | h
      · exact a4 m h hq
      · exact absurd hq (no (l2 m h))
  · by_cases hc : 0 < longer ∧ (best = 0 ∨ longer < best)
    · rw [if_pos hc]
      refine .inr ⟨l1, grow2 _ l2, l3, fun m hm hq => ?_⟩
      rcases part m hm hq with h' | h'
      · rcases h with ⟨a1, a2⟩ | ⟨a1, a2, a3, a4⟩
        · exact absurd hq (no (a2 m h'))
        · have := a4 m h' hq; omega
      · exact l4 m h' hq
    · rw [if_neg hc]
      rcases h with ⟨a1, a2⟩ | ⟨a1, a2, a3, a4⟩
      · omega
      · refine .inr ⟨a1, grow _ a2, a3, fun m hm hq => ?_⟩
        rcases part m hm hq with h' | h'
        · exact a4 m h' hq
        · have := l4 m h' hq; omega

end Go.Proofs.Ytgiabadkbfbilaa

/- from XWQ -/
namespace Go.Proofs.Ytgiabadkbfbilaa
open Go.RowKit
set_option linter.unusedVariables false
set_option linter.unusedSimpArgs false

/-- Each number of a list raised to the greatest one before it, from c on; the greatest one of all. -/
def cml : Int → List Int → List Int
  | _, [] => []
  | c, x :: xs => max c x :: cml (max c x) xs
def mxl : Int → List Int → Int
  | c, [] => c
  | c, x :: xs => mxl (max c x) xs

theorem cml_len : ∀ (xs : List Int) (c : Int), (cml c xs).length = xs.length
  | [], c => rfl
  | x :: xs, c => by rw [cml, List.length_cons, cml_len xs, List.length_cons]

theorem cml_snoc (x : Int) : ∀ (xs : List Int) (c : Int), cml c (xs ++ [x]) = cml c xs ++ [max (mxl c xs) x]
  | [], c => rfl
  | y :: xs, c => by rw [List.cons_append, cml, cml_snoc x xs, cml, mxl, List.cons_append]

theorem mxl_snoc (x : Int) : ∀ (xs : List Int) (c : Int), mxl c (xs ++ [x]) = max (mxl c xs) x
  | [], c => rfl
  | y :: xs, c => by rw [List.cons_append, mxl, mxl_snoc x xs, mxl]

theorem cml_at : ∀ (xs : List Int) (c : Int) (k : Nat) (h : k < xs.length), (cml c xs)[k]'(by rw [cml_len]; exact h) = max (mxl c (xs.take k)) xs[k]
  | x :: xs, c, 0, h => rfl
  | x :: xs, c, k + 1, h => by
    have := cml_at xs (max c x) k (by simpa using h)
    simpa [cml, mxl] using this

theorem mxl_take : ∀ (xs : List Int) (c : Int) (k : Nat) (h : k < xs.length), mxl c (xs.take (k + 1)) = (cml c xs)[k]'(by rw [cml_len]; exact h)
  | x :: xs, c, 0, h => by simp [mxl, cml]
  | x :: xs, c, k + 1, h => by
    have := mxl_take xs (max c x) k (by simpa using h)
    simpa [cml, mxl] using this

/-- The next place: the greater one of the one before and of this one. -/
theorem cml_next (xs : List Int) (c : Int) (k : Nat) (h : k + 1 < xs.length) : (cml c xs)[k + 1]'(by rw [cml_len]; exact h) = max ((cml c xs)[k]'(by rw [cml_len]; omega)) xs[k + 1] := by
  rw [cml_at xs c (k + 1) h, mxl_take xs c k (by omega)]

theorem cml_all (m : Int) : ∀ (xs : List Int) (c : Int), 0 ≤ c → c ≤ m → (∀ x ∈ xs, 0 ≤ x ∧ x ≤ m) → ∀ y ∈ cml c xs, 0 ≤ y ∧ y ≤ m
  | [], c, h0, h1, h, y, hy => by simp [cml] at hy
  | x :: xs, c, h0, h1, h, y, hy => by
    have hx := h x (by simp)
    rw [cml, List.mem_cons] at hy
    rcases hy with rfl | hy
    · omega
    · exact cml_all m xs (max c x) (by omega) (by omega) (fun z hz => h z (by simp [hz])) y hy

theorem cm_val (b : Int) (hb : 2 ≤ b) : ∀ (k : Nat) (n : Int), n.toNat ≤ k → 0 ≤ n → val b (cml 0 (dgs b n)) 0 = cm b n ∧ mxl 0 (dgs b n) = cm b n % b := by
  intro k
  induction k with
  | zero =>
    intro n hk h0
    obtain rfl : n = 0 := by omega
    rw [dgs_small b 0 (by omega), cm_small (by omega)]
    simp [cml, mxl, val]
  | succ k ih =>
    intro n hk h0
    by_cases h : b ≤ n
    · have h2 := div_lt b n hb h
      obtain ⟨i1, i2⟩ := ih (n / b) (by omega) h2.1
      obtain ⟨m0, m1⟩ := mod_bd b n hb
      obtain ⟨t0, t1⟩ := mod_bd b (cm b (n / b)) hb
      rw [dgs_big b n hb h, cml_snoc, mxl_snoc, val_app, i1, i2, cm_big hb h]
      obtain ⟨s1, s2⟩ := split_div (b := b) (q := cm b (n / b)) (x := max (cm b (n / b) % b) (n % b)) hb (by omega) (by omega)
      rw [s2]
      exact ⟨rfl, rfl⟩
    · rw [dgs_small b n h, cm_small h]
      have : n % b = n := mod_small b n hb h0 (by omega)
      rw [this]
      refine ⟨?_, ?_⟩
      · simp [cml, val]; omega
      · simp [mxl]; omega

theorem cm_numF (b n : Int) (hb : 2 ≤ b) (h0 : 0 ≤ n) (h : cm b n ≤ 1000000000000) : numF b (cml 0 (dgs b n)) 0 = some (cm b n) := by
  have hv := (cm_val b hb _ n (Nat.le_refl _) h0).1
  have hall := cml_all (b - 1) (dgs b n) 0 (by omega) (by omega) (dgs_all b n hb h0)
  rw [numF_val b hb _ 0 (fun x hx => (hall x hx).1) (by omega) (by omega), hv, if_pos h]

/-- The persistence. -/
def perP (b n : Int) : Int := ((pru b n).length : Int) - 1
/-- The numbers with the persistence k. -/
def perIs (b k n : Int) : Bool := decide (perP b n = k)

theorem per_small {b n k : Int} (hk : 2 ≤ k) (h : ¬ b ≤ n) : perIs b k n = false := by
  apply decide_eq_false
  unfold perP pru
  rw [ru_end h]; simp; omega

theorem ris_big {b n : Int} (hb : 2 ≤ b) (h : b ≤ n) (hr : ris b n = true) : b + 1 ≤ n := by
  by_cases he : n = b
  · subst he
    have := ((ris_iff hb (by omega)).1 hr).2.2
    rw [Int.emod_self] at this; omega
  · omega

theorem ris_first {b : Int} (hb : 2 ≤ b) : ris b (b + 1) = true := by
  have h1 : ris b 1 = true := by
    have := ris_mk (b := b) (q := 0) (x := 1) hb (by omega) (ris_zero b) (by simp) (by omega) (by omega)
    simpa using this
  have := ris_mk (b := b) (q := 1) (x := 1) hb (by omega) h1 (by rw [Int.emod_eq_of_lt (by omega) (by omega)]; omega) (by omega) (by omega)
  rwa [Int.one_mul] at this

/-- What LeastPersistent finds: 0 if there is none. -/
def Lper (b k r : Int) : Prop := IsM (perIs b k) (StP b 0 1 10000000) r

theorem st_top {b m : Int} (hb : 2 ≤ b) : StP b 0 1 10000000 m ↔ (m ≤ 10000000 ∧ 0 < m ∧ ris b m = true) :=
  ⟨fun h => ⟨h.1, h.2.2.1, h.2.1⟩, fun h => ⟨h.1, ext_top hb h.2.1 h.2.2⟩⟩

/-- The search in order: no number before n is of the kind. -/
theorem lper_found {b k n : Int} (hb : 2 ≤ b) (hn : 0 < n) (hm : n ≤ 10000000) (hr : ris b n = true) (hp : perIs b k n = true) (hno : ∀ m, 0 < m → m < n → ris b m = true → perIs b k m = false) : Lper b k n := by
  refine .inr ⟨hn, (st_top hb).2 ⟨hm, hn, hr⟩, hp, fun m hs hpm => ?_⟩
  obtain ⟨s1, s2, s3⟩ := (st_top hb).1 hs
  by_cases hlt : m < n
  · have := hno m s2 hlt s3; rw [hpm] at this; cases this
  · omega
theorem lper_none {b k n : Int} (hb : 2 ≤ b) (hm : ¬ n ≤ 10000000) (hno : ∀ m, 0 < m → m < n → ris b m = true → perIs b k m = false) : Lper b k 0 := by
  refine .inl ⟨rfl, fun m hs => ?_⟩
  obtain ⟨s1, s2, s3⟩ := (st_top hb).1 hs
  exact hno m s2 (by omega) s3
theorem no_next {b k n : Int} (hb : 2 ≤ b) (hn : 0 ≤ n) (hr : ris b n = true) (hp : perIs b k n = false) (hno : ∀ m, 0 < m → m < n → ris b m = true → perIs b k m = false) : ∀ m, 0 < m → m < nr b n → ris b m = true → perIs b k m = false := by
  intro m m0 hlt hrm
  by_cases h1 : m < n
  · exact hno m m0 h1 hrm
  · by_cases h2 : m = n
    · rw [h2]; exact hp
    · have := (nr_spec hb _ n (Nat.le_refl _) hn hr).2.2.2 m (by omega) hrm
      omega
theorem no_first {b k : Int} (hb : 2 ≤ b) (hk : 2 ≤ k) : ∀ m, 0 < m → m < b + 1 → ris b m = true → perIs b k m = false := by
  intro m m0 hlt hrm
  by_cases h : b ≤ m
  · have := ris_big hb h hrm; omega
  · exact per_small hk h

end Go.Proofs.Ytgiabadkbfbilaa

/- from XWK -/
namespace Go.Proofs.Ytgiabadkbfbilaa
open Go.RowKit
set_option linter.unusedVariables false
set_option linter.unusedSimpArgs false
set_option maxRecDepth 100000

theorem mix_len (xs : List Int) (k : Nat) (hk : k ≤ xs.length) : ((cml 0 xs).take k ++ xs.drop k).length = xs.length := by
  rw [List.length_append, List.length_take, cml_len, List.length_drop]; omega
theorem mix_at (xs : List Int) (k : Nat) (hk : k < xs.length) : ((cml 0 xs).take k ++ xs.drop k)[k]'(by rw [mix_len xs k (by omega)]; exact hk) = xs[k] := by
  rw [List.getElem_append_right (by rw [List.length_take, cml_len]; omega)]
  simp [cml_len, Nat.min_eq_left (Nat.le_of_lt hk)]
theorem mix_before (xs : List Int) (k : Nat) (hk : k + 1 < xs.length) : ((cml 0 xs).take (k + 1) ++ xs.drop (k + 1))[k]'(by rw [mix_len xs (k + 1) (by omega)]; omega) = (cml 0 xs)[k]'(by rw [cml_len]; omega) := by
  rw [List.getElem_append_left (by rw [List.length_take, cml_len]; omega)]
  simp
theorem mix_step (xs : List Int) (k : Nat) (hk : k < xs.length) : ((cml 0 xs).take k ++ xs.drop k).set k ((cml 0 xs)[k]'(by rw [cml_len]; exact hk)) = (cml 0 xs).take (k + 1) ++ xs.drop (k + 1) := by
  have hl : ((cml 0 xs).take k).length = k := by rw [List.length_take, cml_len]; omega
  rw [List.set_append_right _ _ (by omega), hl, Nat.sub_self, List.drop_eq_getElem_cons hk, List.set_cons_zero, List.take_add_one, List.getElem?_eq_getElem (by rw [cml_len]; exact hk), List.append_assoc]
  rfl
theorem mix_first (xs : List Int) (h : 1 ≤ xs.length) (h0 : ∀ x ∈ xs, 0 ≤ x) : (cml 0 xs).take 1 ++ xs.drop 1 = xs := by
  cases xs with
  | nil => simp at h
  | cons x xs => have := h0 x (by simp); simp [cml]; omega
theorem mix_done (xs : List Int) : (cml 0 xs).take xs.length ++ xs.drop xs.length = cml 0 xs := by
  rw [List.drop_length, List.append_nil, List.take_of_length_le (by rw [cml_len]; exact Nat.le_refl _)]

theorem nextRising_any (n b : Int) (w : World) (h0 : 0 ≤ n) (h1 : n ≤ 10000000) (hb : 2 ≤ b) (hb' : b ≤ 16) (hc : nr b n ≤ 1000000000000) :
    Calls Try.prog 152 #[.int .i64 b, .int .i64 n] w fun e w' => e = .returned (.tuple #[.int .i64 (nr b n), .bool true]) ∧ Below w.heap.size w w' := by
  obtain ⟨xs, hxs⟩ : ∃ xs, xs = dgs b (n + 1) := ⟨_, rfl⟩
  have hlen : xs.length ≤ 40 := by rw [hxs]; exact dgs_len40 b (n + 1) hb (by omega) (by omega)
  have hpos : 1 ≤ xs.length := by rw [hxs]; exact dgs_pos _ _
  have hall := dgs_all b (n + 1) hb (by omega)
  rw [← hxs] at hall
  have HC := Lib.hid (show numF b (cml 0 xs) 0 = some (nr b n) by rw [hxs]; exact cm_numF b (n + 1) hb (by omega) hc)
  have HA := Lib.hid (cml_all (b - 1) xs 0 (by omega) (by omega) hall)
  have HA0 := Lib.hid (fun x hx => (hall x hx).1)
  have HX := Lib.hid hxs
  clear hxs hall hc
  go_enter Try.func152, Try.ntmps152
  go_wp2_with (go_at_call 147; refine (digits_any _ _ _ (by omega) (by omega) hb hb').mono ?_; rw [← HX.out]; rintro e w1 ⟨g, cap, rfl, hr, hbl⟩; have HB := Lib.hid hbl; have HR := Lib.hid hr; have hgB := hr.at.2.1; clear hbl hr)
  go_loopw [7] (fun i wr => ∃ k : Nat, i = .int .i64 ((k : Int) + 1) ∧ k + 1 ≤ xs.length ∧ Rd wr w.heap.size (.slice (some ⟨g, 0, none⟩) xs.length cap) ((cml 0 xs).take (k + 1) ++ xs.drop (k + 1)) ∧ Below w.heap.size w wr) (fun i _ => (100 - intOf i).toNat)
  case atStart => exact ⟨0, rfl, by omega, by rw [mix_first xs hpos HA0.out]; exact HR.out, HB.out⟩
  case round =>
    obtain ⟨k, rfl, hk, hr, hbl⟩ := hrel
    have HR := Lib.hid hr
    have HB := Lib.hid hbl
    clear hr hbl
    by_cases hlt : k + 1 < xs.length
    · obtain ⟨p, hp⟩ : ∃ p, p = (cml 0 xs)[k]'(by rw [cml_len]; omega) := ⟨_, rfl⟩
      obtain ⟨q, hq⟩ : ∃ q, q = xs[k + 1] := ⟨_, rfl⟩
      have hc0 := HR.out.at.2.2.2.2.1 k (by rw [mix_len xs (k + 1) (by omega)]; omega)
      have hc1 := HR.out.at.2.2.2.2.1 (k + 1) (by rw [mix_len xs (k + 1) (by omega)]; exact hlt)
      have hf := HR.out.at.2.2.2.2.2 (k + 1)
      rw [mix_before xs k hlt, ← hp] at hc0
      rw [mix_at xs (k + 1) hlt, ← hq] at hc1
      have HN := Lib.hid (show (cml 0 xs)[k + 1]'(by rw [cml_len]; exact hlt) = max p q by rw [cml_next xs 0 k hlt, hp, hq])
      have hmx : max q p = max p q := Int.max_comm _ _
      have HST := Lib.hid (mix_step xs (k + 1) hlt)
      have hkc : ((k + 1 : Nat) : Int) = (k : Int) + 1 := by omega
      have hw1 : IntKind.i64.wrap ((k : Int) + 1 - 1) = (k : Int) := by rw [show (k : Int) + 1 - 1 = k by omega]; exact IntWalk.i64_in _ (by omega)
      clear hp hq
      by_cases hle : p ≤ q
      · have hm1 : max p q = q := Int.max_eq_right hle
        have hm2 : max q p = q := Int.max_eq_left hle
        go_wp2
        go_region
        go_wp2
        go_roundw
        case rel =>
          have h2 := HR.out.set (k + 1) (max p q)
          exact ⟨k + 1, by go_num, by omega, by rw [← HST.out, HN.out]; first | exact h2.1 | (rw [hm1] at h2 ⊢; exact h2.1), HB.out.trans (grown_below (by first | exact grown_drew h2.2 | (rw [hm1] at h2; exact grown_drew h2.2)) HB.out.size hgB)⟩
        case measure => simp [intOf]; omega
      · have hm1 : max p q = p := Int.max_eq_left (by omega)
        have hm2 : max q p = p := Int.max_eq_right (by omega)
        go_wp2
        go_region
        go_wp2
        go_roundw
        case rel =>
          have h2 := HR.out.set (k + 1) (max p q)
          exact ⟨k + 1, by go_num, by omega, by rw [← HST.out, HN.out]; first | exact h2.1 | (rw [hm1] at h2 ⊢; exact h2.1), HB.out.trans (grown_below (by first | exact grown_drew h2.2 | (rw [hm1] at h2; exact grown_drew h2.2)) HB.out.size hgB)⟩
        case measure => simp [intOf]; omega
    · have hk1 : k + 1 = xs.length := by omega
      have HD := Lib.hid (show Rd wr w.heap.size (.slice (some ⟨g, 0, none⟩) xs.length cap) (cml 0 xs) by have := HR.out; rw [hk1, mix_done] at this; exact this)
      go_wp2_with (go_at_call 148; refine (number_any _ _ _ _ _ HD.out (fun x hx => by have := HA.out x hx; omega) hb hb' (by rw [cml_len]; omega)).mono ?_; rw [HC.out]; rintro e w2 ⟨rfl, rfl⟩)
      go_ret2
      exact ⟨rfl, HB.out⟩

theorem per_len {b n : Int} {L : Nat} (h : L = (pru b n).length) (k : Int) : perIs b k n = decide ((L : Int) - 1 = k) := by
  unfold perIs perP; rw [← h]

/-- The two results of a search that tells 0 for nothing. -/
abbrev res0 (r : Int) : Value := .tuple #[.int .i64 r, .bool (decide (0 < r))]

theorem leastPersistent_any (k b : Int) (w : World) (hk : 2 ≤ k) (hk' : k ≤ 12) (hb : 2 ≤ b) (hb' : b ≤ 16) :
    Calls Try.prog 112 #[.int .i64 b, .int .i64 k] w fun e w' => ∃ r, e = .returned (res0 r) ∧ Lper b k r ∧ Below w.heap.size w w' := by
  have HF := Lib.hid (no_first (b := b) hb hk)
  have HR1 := Lib.hid (ris_first hb)
  have e0 : (k == 0) = false := beq_no (by omega)
  have e1 : (k == 1) = false := beq_no (by omega)
  go_enter Try.func112, Try.ntmps112
  go_wp2
  go_loopw [6, 7] (fun i q wr => ∃ n : Int, i = .int .i64 n ∧ q = .bool true ∧ 3 ≤ n ∧ n ≤ 200000000 ∧ Hid (ris b n = true) ∧ Hid (∀ m, 0 < m → m < n → ris b m = true → perIs b k m = false) ∧ Below w.heap.size w wr) (fun i _ _ => (200000000 - intOf i).toNat)
  case atStart => exact ⟨b + 1, rfl, rfl, by omega, by omega, HR1, HF, Below.refl _ _⟩
  case round =>
    obtain ⟨n, rfl, rfl, n0, n1, HS, HN, hbl⟩ := hrel
    have HB := Lib.hid hbl
    clear hbl
    by_cases hm : n ≤ 10000000
    · obtain ⟨s1, s2, s3, s4⟩ := nr_spec hb _ n (Nat.le_refl _) (by omega) HS.out
      have t1 : b * (n + 1) ≤ 16 * 10000001 := Int.mul_le_mul hb' (by omega) (by omega) (by omega)
      have HS3 := Lib.hid s3
      obtain ⟨y, hy⟩ : ∃ y, y = nr b n := ⟨_, rfl⟩
      have HY := Lib.hid hy
      rw [← hy] at s1 s2
      have y1 : y ≤ 200000000 := by omega
      clear s3 s4 hy t1 s2
      obtain ⟨L, hL⟩ : ∃ L, L = (pru b n).length := ⟨_, rfl⟩
      have HP := Lib.hid (per_len hL k)
      have HL := Lib.hid hL
      have hl1 : L ≤ 1000 := by rw [hL]; exact pru_len b n hb hb' (by omega) (by omega)
      clear hL
      by_cases hp : (L : Int) - 1 = k
      · have hbe : ((L : Int) - 1 == k) = true := beq_yes hp
        have HH := Lib.hid (lper_found hb (show 0 < n by omega) hm HS.out (by rw [HP.out]; exact decide_eq_true hp) HN.out)
        clear hp
        go_wp2_with (go_at_call 95; refine (persistence_any _ _ _ (by omega) (by omega) hb hb').mono ?_; rw [← HL.out]; rintro e w1 ⟨rfl, hbl⟩; have HB1 := Lib.hid (Below.step HB.out HB.out.size hbl); clear hbl)
        go_ret2
        exact ⟨n, by first | rfl | simp; omega, HH.out, HB1.out⟩
      · have hbe : ((L : Int) - 1 == k) = false := beq_no hp
        have HH := Lib.hid (no_next hb (show 0 ≤ n by omega) HS.out (by rw [HP.out]; exact decide_eq_false hp) HN.out)
        clear hp
        go_wp2_with (first | (go_at_call 95; refine (persistence_any _ _ _ (by omega) (by omega) hb hb').mono ?_; rw [← HL.out]; rintro e w1 ⟨rfl, hbl⟩; have HB1 := Lib.hid (Below.step HB.out HB.out.size hbl); clear hbl) | (go_at_call 152; refine (nextRising_any n b _ (by omega) hm hb hb' (by rw [← HY.out]; omega)).mono ?_; rw [← HY.out]; rintro e w2 ⟨rfl, hbl⟩; have HB2 := Lib.hid (Below.step HB1.out HB1.out.size hbl); clear hbl))
        go_roundw
        case rel => exact ⟨y, rfl, rfl, by omega, y1, by rw [HY.out]; exact HS3, by rw [HY.out]; exact HH, HB2.out⟩
        case measure => simp [intOf]; omega
    · have HH := Lib.hid (lper_none (k := k) hb hm HN.out)
      go_wp2
      go_ret2
      exact ⟨0, rfl, HH.out, HB.out⟩

theorem prLeast_base (k b : Int) (hk : 2 ≤ k) (hk' : k ≤ 12) (hb : 2 ≤ b) (hb' : b ≤ 16) (n least : Int) (w : World) (n0 : 0 ≤ n) (n1 : n ≤ 10000000) (hn : n = 10000000) (hrn : ris b n = true) (hml : n % b ≤ least) (hl : 1 ≤ least) (hl' : least ≤ b) :
    Calls Try.prog 113 #[.int .i64 n, .int .i64 least, .int .i64 b, .int .i64 k, .int .i64 10000000] w fun e w' => ∃ r, e = .returned (.int .i64 r) ∧ IsM (perIs b k) (StP b n least 10000000) r ∧ 0 ≤ r ∧ r ≤ 10000000 ∧ Below w.heap.size w w' := by
  have HRN := Lib.hid hrn
  have HML := Lib.hid hml
  have hn2 : 10000000 ≤ n := by omega
  clear hrn hml hn
  go_enter Try.func113, Try.ntmps113
  go_wp2
  go_loopw [11, 12] (fun x y wr => ∃ best d : Int, x = .int .i64 best ∧ y = .int .i64 d ∧ least ≤ d ∧ d ≤ b ∧ 0 ≤ best ∧ best ≤ 10000000 ∧ IsM (perIs b k) (Sd b n least 10000000 d) best ∧ Below w.heap.size w wr) (fun _ y _ => (16 - intOf y).toNat)
  case atStart => exact ⟨0, least, rfl, rfl, by omega, by omega, by omega, by omega, isM_start _, Below.refl _ _⟩
  case round =>
    obtain ⟨best, d, rfl, rfl, hd0, hd1, b0, b1, hm, hbl⟩ := hrel
    have HM := Lib.hid hm
    have HB := Lib.hid hbl
    clear hm hbl
    by_cases hd : d < b
    · have d1 : 1 ≤ d := by omega
      obtain ⟨p, hpm⟩ : ∃ p, n * b = p := ⟨_, rfl⟩
      have hnb : n * b + d = p + d := by rw [hpm]
      have p0 : 0 ≤ p := by rw [← hpm]; exact Int.mul_nonneg n0 (by omega)
      have p1 : p ≤ 160000000 := by rw [← hpm]; exact Int.mul_le_mul n1 hb' (by omega) (by omega)
      have p2 : 2 * n ≤ p := by rw [← hpm, Int.mul_comm n b]; exact Int.mul_le_mul_of_nonneg_right hb n0
      have HRT := Lib.hid (show ris b (p + d) = true by rw [← hnb]; exact ris_mk hb n0 HRN.out (by have := HML.out; omega) d1 hd)
      have HMT := Lib.hid (show (p + d) % b ≤ d by rw [← hnb]; exact Int.le_of_eq (split_div hb (by omega) hd).2)
      by_cases hmost : 10000000 < p + d
      · skip
        have HH := Lib.hid ((isM_break hb HM.out (by omega) (.inl (by rw [hnb]; exact hmost))).congr (sd_all hb n0 HRN.out HML.out hl (Int.le_refl b)))
        go_wp2
        go_ret
        exact ⟨best, rfl, HH.out, b0, b1, HB.out⟩
      · omega
    · have HH := Lib.hid (HM.out.congr (sd_all hb n0 HRN.out HML.out hl (show b ≤ d by omega)))
      go_wp2
      go_ret
      exact ⟨best, rfl, HH.out, b0, b1, HB.out⟩

theorem prLeast_any (k b : Int) (hk : 2 ≤ k) (hk' : k ≤ 12) (hb : 2 ≤ b) (hb' : b ≤ 16) : ∀ (f : Nat) (n least : Int) (w : World), (10000000 - n).toNat ≤ f → 0 ≤ n → n ≤ 10000000 → ris b n = true → n % b ≤ least → 1 ≤ least → least ≤ b →
    Calls Try.prog 113 #[.int .i64 n, .int .i64 least, .int .i64 b, .int .i64 k, .int .i64 10000000] w fun e w' => ∃ r, e = .returned (.int .i64 r) ∧ IsM (perIs b k) (StP b n least 10000000) r ∧ 0 ≤ r ∧ r ≤ 10000000 ∧ Below w.heap.size w w' := by
  intro f
  induction f with
  | zero =>
    intro n least w hf n0 n1 hrn hml hl hl'
    have hn : n = 10000000 := by omega
    exact prLeast_base k b hk hk' hb hb' n least w n0 n1 hn hrn hml hl hl'
  | succ f ih =>
    intro n least w hf n0 n1 hrn hml hl hl'
    have HI := Lib.hid ih
    have HRN := Lib.hid hrn
    have HML := Lib.hid hml
    clear ih hrn hml
    go_enter Try.func113, Try.ntmps113
    go_wp2
    go_loopw [11, 12] (fun x y wr => ∃ best d : Int, x = .int .i64 best ∧ y = .int .i64 d ∧ least ≤ d ∧ d ≤ b ∧ 0 ≤ best ∧ best ≤ 10000000 ∧ IsM (perIs b k) (Sd b n least 10000000 d) best ∧ Below w.heap.size w wr) (fun _ y _ => (16 - intOf y).toNat)
    case atStart => exact ⟨0, least, rfl, rfl, by omega, by omega, by omega, by omega, isM_start _, Below.refl _ _⟩
    case round =>
      obtain ⟨best, d, rfl, rfl, hd0, hd1, b0, b1, hm, hbl⟩ := hrel
      have HM := Lib.hid hm
      have HB := Lib.hid hbl
      clear hm hbl
      by_cases hd : d < b
      · have d1 : 1 ≤ d := by omega
        obtain ⟨p, hpm⟩ : ∃ p, n * b = p := ⟨_, rfl⟩
        have hnb : n * b + d = p + d := by rw [hpm]
        have p0 : 0 ≤ p := by rw [← hpm]; exact Int.mul_nonneg n0 (by omega)
        have p1 : p ≤ 160000000 := by rw [← hpm]; exact Int.mul_le_mul n1 hb' (by omega) (by omega)
        have p2 : 2 * n ≤ p := by rw [← hpm, Int.mul_comm n b]; exact Int.mul_le_mul_of_nonneg_right hb n0
        have HRT := Lib.hid (show ris b (p + d) = true by rw [← hnb]; exact ris_mk hb n0 HRN.out (by have := HML.out; omega) d1 hd)
        have HMT := Lib.hid (show (p + d) % b ≤ d by rw [← hnb]; exact Int.le_of_eq (split_div hb (by omega) hd).2)
        by_cases hmost : 10000000 < p + d
        · skip
          have HH := Lib.hid ((isM_break hb HM.out (by omega) (.inl (by rw [hnb]; exact hmost))).congr (sd_all hb n0 HRN.out HML.out hl (Int.le_refl b)))
          go_wp2
          go_ret
          exact ⟨best, rfl, HH.out, b0, b1, HB.out⟩
        · obtain ⟨L, hL⟩ : ∃ L, L = (pru b (p + d)).length := ⟨_, rfl⟩
          have HP := Lib.hid (per_len hL k)
          have HL := Lib.hid hL
          have hl1 : L ≤ 1000 := by rw [hL]; exact pru_len b (p + d) hb hb' (by omega) (by omega)
          clear hL
          by_cases hz : best = 0
          · subst hz
            by_cases hp : (L : Int) - 1 = k
            · have hbe : ((L : Int) - 1 == k) = true := beq_yes hp
              have HH := Lib.hid (isM_hit hb n0 d1 hd0 HM.out hd (by rw [hnb]; omega) (by rw [hnb]; exact .inl rfl) (by rw [hnb, HP.out]; exact decide_eq_true hp))
              clear hp
              go_wp2_with (go_at_call 93; go_loud (refine (prRun_p _ _ _ (by omega) (by omega) hb hb').mono ?_; rw [← HL.out]; rintro e w1 ⟨gl, capl, rfl, hr1, hbl⟩; have HB1 := Lib.hid (Below.step HB.out HB.out.size hbl); clear hbl hr1))
              go_roundw
              case rel => exact ⟨p + d, d + 1, rfl, by go_num, by omega, by omega, by omega, by omega, by have := HH.out; rw [hnb] at this; exact this, HB1.out⟩
              case measure => simp [intOf]; omega
            · have hbe : ((L : Int) - 1 == k) = false := beq_no hp
              have HPF := Lib.hid (show perIs b k (n * b + d) = false by rw [hnb, HP.out]; exact decide_eq_false hp)
              clear hp
              go_wp2_with (go_at_call 93; go_loud (refine (prRun_p _ _ _ (by omega) (by omega) hb hb').mono ?_; rw [← HL.out]; rintro e w1 ⟨gl, capl, rfl, hr1, hbl⟩; have HB1 := Lib.hid (Below.step HB.out HB.out.size hbl); clear hbl hr1))
              refine (HI.out _ _ _ (by omega) (by omega) (by omega) HRT.out HMT.out d1 (by omega)).mono ?_
              rintro e w2 ⟨lo, rfl, hlo, l0, l1, hbl⟩
              have HLO := Lib.hid hlo
              have HB2 := Lib.hid (Below.step HB1.out HB1.out.size hbl)
              clear hbl hlo
              by_cases hlp : 0 < lo
              · skip
                have HH := Lib.hid (show IsM (perIs b k) (Sd b n least 10000000 (d + 1)) lo by have h := isM_rest hb HM.out hd hd0 HPF.out (by rw [hnb]; exact HLO.out); rwa [if_pos ⟨hlp, .inl rfl⟩] at h)
                go_wp2
                go_roundw
                case rel => exact ⟨lo, d + 1, rfl, by go_num, by omega, by omega, by omega, by omega, HH.out, HB2.out⟩
                case measure => simp [intOf]; omega
              · skip
                have HH := Lib.hid (show IsM (perIs b k) (Sd b n least 10000000 (d + 1)) 0 by have h := isM_rest hb HM.out hd hd0 HPF.out (by rw [hnb]; exact HLO.out); rwa [if_neg (fun c => hlp c.1)] at h)
                go_wp2
                go_roundw
                case rel => exact ⟨0, d + 1, rfl, by go_num, by omega, by omega, by omega, by omega, HH.out, HB2.out⟩
                case measure => simp [intOf]; omega
          · have hbp : 0 < best := by omega
            have hz0 : (best == 0) = false := beq_no hz
            by_cases hlt : best < p + d
            · skip
              have HH := Lib.hid ((isM_break hb HM.out (by omega) (.inr ⟨hbp, by rw [hnb]; exact hlt⟩)).congr (sd_all hb n0 HRN.out HML.out hl (Int.le_refl b)))
              go_wp2
              go_ret
              exact ⟨best, rfl, HH.out, b0, b1, HB.out⟩
            · by_cases hp : (L : Int) - 1 = k
              · have hbe : ((L : Int) - 1 == k) = true := beq_yes hp
                have HH := Lib.hid (isM_hit hb n0 d1 hd0 HM.out hd (by rw [hnb]; omega) (by rw [hnb]; exact .inr (by omega)) (by rw [hnb, HP.out]; exact decide_eq_true hp))
                clear hp
                go_wp2_with (go_at_call 93; go_loud (refine (prRun_p _ _ _ (by omega) (by omega) hb hb').mono ?_; rw [← HL.out]; rintro e w1 ⟨gl, capl, rfl, hr1, hbl⟩; have HB1 := Lib.hid (Below.step HB.out HB.out.size hbl); clear hbl hr1))
                go_roundw
                case rel => exact ⟨p + d, d + 1, rfl, by go_num, by omega, by omega, by omega, by omega, by have := HH.out; rw [hnb] at this; exact this, HB1.out⟩
                case measure => simp [intOf]; omega
              · have hbe : ((L : Int) - 1 == k) = false := beq_no hp
                have HPF := Lib.hid (show perIs b k (n * b + d) = false by rw [hnb, HP.out]; exact decide_eq_false hp)
                clear hp
                go_wp2_with (go_at_call 93; go_loud (refine (prRun_p _ _ _ (by omega) (by omega) hb hb').mono ?_; rw [← HL.out]; rintro e w1 ⟨gl, capl, rfl, hr1, hbl⟩; have HB1 := Lib.hid (Below.step HB.out HB.out.size hbl); clear hbl hr1))
                refine (HI.out _ _ _ (by omega) (by omega) (by omega) HRT.out HMT.out d1 (by omega)).mono ?_
                rintro e w2 ⟨lo, rfl, hlo, l0, l1, hbl⟩
                have HLO := Lib.hid hlo
                have HB2 := Lib.hid (Below.step HB1.out HB1.out.size hbl)
                clear hbl hlo
                by_cases hlp : 0 < lo
                · by_cases hlb : lo < best
                  · skip
                    have HH := Lib.hid (show IsM (perIs b k) (Sd b n least 10000000 (d + 1)) lo by have h := isM_rest hb HM.out hd hd0 HPF.out (by rw [hnb]; exact HLO.out); rwa [if_pos ⟨hlp, .inr hlb⟩] at h)
                    go_wp2
                    go_roundw
                    case rel => exact ⟨lo, d + 1, rfl, by go_num, by omega, by omega, by omega, by omega, HH.out, HB2.out⟩
                    case measure => simp [intOf]; omega
                  · skip
                    have HH := Lib.hid (show IsM (perIs b k) (Sd b n least 10000000 (d + 1)) best by have h := isM_rest hb HM.out hd hd0 HPF.out (by rw [hnb]; exact HLO.out); rwa [if_neg (fun c => by omega)] at h)
                    go_wp2
                    go_roundw
                    case rel => exact ⟨best, d + 1, rfl, by go_num, by omega, by omega, by omega, by omega, HH.out, HB2.out⟩
                    case measure => simp [intOf]; omega
                · skip
                  have HH := Lib.hid (show IsM (perIs b k) (Sd b n least 10000000 (d + 1)) best by have h := isM_rest hb HM.out hd hd0 HPF.out (by rw [hnb]; exact HLO.out); rwa [if_neg (fun c => hlp c.1)] at h)
                  go_wp2
                  go_roundw
                  case rel => exact ⟨best, d + 1, rfl, by go_num, by omega, by omega, by omega, by omega, HH.out, HB2.out⟩
                  case measure => simp [intOf]; omega
      · have HH := Lib.hid (HM.out.congr (sd_all hb n0 HRN.out HML.out hl (show b ≤ d by omega)))
        go_wp2
        go_ret
        exact ⟨best, rfl, HH.out, b0, b1, HB.out⟩

/-- What LeastPersistent answers. -/
def LPok (k b : Int) : Prop := (0 ≤ k ∧ k ≤ 12) ∧ Bas b
instance (k b : Int) : Decidable (LPok k b) := by unfold LPok Bas; exact inferInstance
def PLP (k b r : Int) : Prop := if LPok k b then (if k = 0 then r = 0 else if k = 1 then r = b else Lper b k r) else r = 0
abbrev res1 (k b r : Int) : Value := .tuple #[.int .i64 r, .bool (decide (LPok k b) && (decide (k = 0) || decide (0 < r)))]
theorem PLP.same {k b r t : Int} (h1 : PLP k b r) (h2 : PLP k b t) : r = t := by
  unfold PLP at h1 h2
  split at h1
  · split at h1
    · simp_all
    · split at h1
      · simp_all
      · simp_all only [if_true, if_false]
        exact IsM.same h1 h2
  · simp_all

theorem leastPersistent_zero (b : Int) (w : World) : Calls Try.prog 112 #[.int .i64 b, .int .i64 0] w fun e w' => e = .returned (.tuple #[.int .i64 0, .bool true]) ∧ w = w' := by
  go_enter Try.func112, Try.ntmps112
  go_wp2
  go_ret2
  exact ⟨rfl, rfl⟩
theorem leastPersistent_one (b : Int) (w : World) : Calls Try.prog 112 #[.int .i64 b, .int .i64 1] w fun e w' => e = .returned (.tuple #[.int .i64 b, .bool true]) ∧ w = w' := by
  go_enter Try.func112, Try.ntmps112
  go_wp2
  go_ret2
  exact ⟨rfl, rfl⟩

theorem impl_LeastPersistent (k b : Int) (w : World) :
    Calls Try.prog 45 #[.int .i64 k, .int .i64 b] w fun e w' => ∃ r, e = .returned (res1 k b r) ∧ PLP k b r ∧ Below w.heap.size w w' := by
  by_cases hB : Bas b
  · have a2 : decide (Bas b) = true := decide_eq_true hB
    by_cases hk : 0 ≤ k ∧ k ≤ 12
    · have hO := Lib.hid (show decide (LPok k b) = true from decide_eq_true ⟨hk, hB⟩)
      have hP := Lib.hid (show LPok k b from ⟨hk, hB⟩)
      obtain ⟨k0, k1⟩ := hk
      obtain ⟨b0, b1⟩ := hB
      by_cases hz : k = 0
      · subst hz
        go_enter Try.func45, Try.ntmps45
        go_wp2_with (first | (go_at_call 111; refine (isBase_any _ _).mono ?_; rintro e w1 ⟨rfl, rfl⟩) | (go_at_call 112; refine (leastPersistent_zero b _).mono ?_; rintro e w1 ⟨rfl, rfl⟩))
        go_ret2
        exact ⟨0, by unfold res1; rw [hO.out]; rfl, by unfold PLP; rw [if_pos hP.out, if_pos rfl], Below.refl _ _⟩
      · by_cases h1 : k = 1
        · subst h1
          go_enter Try.func45, Try.ntmps45
          go_wp2_with (first | (go_at_call 111; refine (isBase_any _ _).mono ?_; rintro e w1 ⟨rfl, rfl⟩) | (go_at_call 112; refine (leastPersistent_one b _).mono ?_; rintro e w1 ⟨rfl, rfl⟩))
          go_ret2
          exact ⟨b, by unfold res1; rw [hO.out, decide_eq_true (show 0 < b by omega)]; simp; try rfl, by unfold PLP; rw [if_pos hP.out, if_neg (by omega), if_pos rfl], Below.refl _ _⟩
        · have hk2 : 2 ≤ k := by omega
          have HK := Lib.hid (show decide (k = 0) = false from decide_eq_false hz)
          have HPL := Lib.hid (show ∀ r, Lper b k r → PLP k b r from fun r h => by unfold PLP; rw [if_pos hP.out, if_neg hz, if_neg h1]; exact h)
          have e0 : (k == 0) = false := beq_no hz
          have e1 : (k == 1) = false := beq_no h1
          clear hz h1
          go_enter Try.func45, Try.ntmps45
          go_wp2_with (first | (go_at_call 111; refine (isBase_any _ _).mono ?_; rintro e w1 ⟨rfl, rfl⟩) | (go_at_call 112; refine (leastPersistent_any k b _ hk2 k1 b0 b1).mono ?_; rintro e w1 ⟨r, rfl, hm, hbl⟩; have HM := Lib.hid hm; have HB := Lib.hid hbl; clear hm hbl))
          go_ret2
          exact ⟨r, by unfold res1; rw [hO.out, HK.out]; simp; try rfl, HPL.out r HM.out, HB.out⟩
    · have hO := Lib.hid (show decide (LPok k b) = false from decide_eq_false (fun h => hk h.1))
      have hP := Lib.hid (show PLP k b 0 by unfold PLP; rw [if_neg (fun h => hk h.1)])
      clear hB
      by_cases h0 : k < 0
      · clear hk
        go_enter Try.func45, Try.ntmps45
        go_wp2_with (go_at_call 111; refine (isBase_any _ _).mono ?_; rintro e w1 ⟨rfl, rfl⟩)
        go_ret2
        exact ⟨0, by unfold res1; rw [hO.out]; rfl, hP.out, Below.refl _ _⟩
      · have h1 : 12 < k := by omega
        clear hk
        go_enter Try.func45, Try.ntmps45
        go_wp2_with (go_at_call 111; refine (isBase_any _ _).mono ?_; rintro e w1 ⟨rfl, rfl⟩)
        go_ret2
        exact ⟨0, by unfold res1; rw [hO.out]; rfl, hP.out, Below.refl _ _⟩
  · have a2 : decide (Bas b) = false := decide_eq_false hB
    have hO := Lib.hid (show decide (LPok k b) = false from decide_eq_false (fun h => hB h.2))
    have hP := Lib.hid (show PLP k b 0 by unfold PLP; rw [if_neg (fun h => hB h.2)])
    clear hB
    by_cases h0 : k < 0
    · go_enter Try.func45, Try.ntmps45
      go_wp2_with (go_at_call 111; refine (isBase_any _ _).mono ?_; rintro e w1 ⟨rfl, rfl⟩)
      go_ret2
      exact ⟨0, by unfold res1; rw [hO.out]; rfl, hP.out, Below.refl _ _⟩
    · by_cases h1 : 12 < k
      · go_enter Try.func45, Try.ntmps45
        go_wp2_with (go_at_call 111; refine (isBase_any _ _).mono ?_; rintro e w1 ⟨rfl, rfl⟩)
        go_ret2
        exact ⟨0, by unfold res1; rw [hO.out]; rfl, hP.out, Below.refl _ _⟩
      · go_enter Try.func45, Try.ntmps45
        go_wp2_with (go_at_call 111; refine (isBase_any _ _).mono ?_; rintro e w1 ⟨rfl, rfl⟩)
        go_ret2
        exact ⟨0, by unfold res1; rw [hO.out]; rfl, hP.out, Below.refl _ _⟩

theorem spec_LeastPersistent (k b : Int) (w : World) :
    Calls Try.prog 46 #[.int .i64 k, .int .i64 b] w fun e w' => ∃ r, e = .returned (res1 k b r) ∧ PLP k b r ∧ Below w.heap.size w w' := by
  by_cases hB : Bas b
  · have a2 : decide (Bas b) = true := decide_eq_true hB
    by_cases hk : 0 ≤ k ∧ k ≤ 12
    · have hO := Lib.hid (show decide (LPok k b) = true from decide_eq_true ⟨hk, hB⟩)
      have hP := Lib.hid (show LPok k b from ⟨hk, hB⟩)
      obtain ⟨k0, k1⟩ := hk
      obtain ⟨b0, b1⟩ := hB
      by_cases hz : k = 0
      · subst hz
        go_enter Try.func46, Try.ntmps46
        go_wp2_with (first | (go_at_call 78; refine (dgBase_any _ _).mono ?_; rintro e w1 ⟨rfl, rfl⟩) | (go_at_call 79; refine (l1In_yes _ _ _ _ (by omega) (by omega)).mono ?_; rintro e w1 ⟨rfl, rfl⟩))
        go_ret2
        exact ⟨0, by unfold res1; rw [hO.out]; rfl, by unfold PLP; rw [if_pos hP.out, if_pos rfl], Below.refl _ _⟩
      · by_cases h1 : k = 1
        · subst h1
          go_enter Try.func46, Try.ntmps46
          go_wp2_with (first | (go_at_call 78; refine (dgBase_any _ _).mono ?_; rintro e w1 ⟨rfl, rfl⟩) | (go_at_call 79; refine (l1In_yes _ _ _ _ (by omega) (by omega)).mono ?_; rintro e w1 ⟨rfl, rfl⟩))
          go_ret2
          exact ⟨b, by unfold res1; rw [hO.out, decide_eq_true (show 0 < b by omega)]; simp; try rfl, by unfold PLP; rw [if_pos hP.out, if_neg (by omega), if_pos rfl], Below.refl _ _⟩
        · have hk2 : 2 ≤ k := by omega
          have HK := Lib.hid (show decide (k = 0) = false from decide_eq_false hz)
          have HPL := Lib.hid (show ∀ r, Lper b k r → PLP k b r from fun r h => by unfold PLP; rw [if_pos hP.out, if_neg hz, if_neg h1]; exact h)
          have e0 : (k == 0) = false := beq_no hz
          have e1 : (k == 1) = false := beq_no h1
          clear hz h1
          go_enter Try.func46, Try.ntmps46
          go_wp2_with (first | (go_at_call 78; refine (dgBase_any _ _).mono ?_; rintro e w1 ⟨rfl, rfl⟩) | (go_at_call 79; refine (l1In_yes _ _ _ _ k0 k1).mono ?_; rintro e w1 ⟨rfl, rfl⟩) | (go_at_call 113; refine (prLeast_any k b hk2 k1 b0 b1 _ 0 1 _ (Nat.le_refl _) (by omega) (by omega) (ris_zero b) (by simp) (by omega) (by omega)).mono ?_; rintro e w1 ⟨r, rfl, hm, r0, r1, hbl⟩; have HM := Lib.hid hm; have HB := Lib.hid hbl; clear hm hbl))
          go_ret2
          exact ⟨r, by unfold res1; rw [hO.out, HK.out]; simp; try rfl, HPL.out r HM.out, HB.out⟩
    · have hO := Lib.hid (show decide (LPok k b) = false from decide_eq_false (fun h => hk h.1))
      have hP := Lib.hid (show PLP k b 0 by unfold PLP; rw [if_neg (fun h => hk h.1)])
      clear hB
      have hk' : k < 0 ∨ 12 < k := by omega
      clear hk
      go_enter Try.func46, Try.ntmps46
      go_wp2_with (first | (go_at_call 78; refine (dgBase_any _ _).mono ?_; rintro e w1 ⟨rfl, rfl⟩) | (go_at_call 79; refine (l1In_no _ _ _ _ hk').mono ?_; rintro e w1 ⟨rfl, rfl⟩))
      go_ret2
      exact ⟨0, by unfold res1; rw [hO.out]; rfl, hP.out, Below.refl _ _⟩
  · have a2 : decide (Bas b) = false := decide_eq_false hB
    have hO := Lib.hid (show decide (LPok k b) = false from decide_eq_false (fun h => hB h.2))
    have hP := Lib.hid (show PLP k b 0 by unfold PLP; rw [if_neg (fun h => hB h.2)])
    clear hB
    go_enter Try.func46, Try.ntmps46
    go_wp2_with (go_at_call 78; refine (dgBase_any _ _).mono ?_; rintro e w1 ⟨rfl, rfl⟩)
    go_ret2
    exact ⟨0, by unfold res1; rw [hO.out]; rfl, hP.out, Below.refl _ _⟩

end Go.Proofs.Ytgiabadkbfbilaa
