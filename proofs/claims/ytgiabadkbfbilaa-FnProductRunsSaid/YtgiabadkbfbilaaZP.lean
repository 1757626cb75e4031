/-
  The least number with a product: fewest digits, least ones in front; the model's first list that does not fall: plain mathematics.
-/
import Derived.Test.YtgiabadkbfbilaaWS
namespace Go.Proofs.Ytgiabadkbfbilaa
open Go.RowKit
set_option linter.unusedVariables false
set_option linter.unusedSimpArgs false

def prodN : List Nat → Nat
  | [] => 1
  | d :: l => d * prodN l
/-- Digits of at least f. -/
def Dgf (b f : Nat) (l : List Nat) : Prop := ∀ d ∈ l, f ≤ d ∧ d < b

theorem prodN_pos {b f : Nat} (hf : 1 ≤ f) : ∀ l : List Nat, Dgf b f l → 1 ≤ prodN l
  | [], _ => Nat.le_refl _
  | d :: l, h => by
    have h1 := h d (by simp)
    have h2 := prodN_pos hf l (fun x hx => h x (by simp [hx]))
    exact Nat.le_trans h2 (Nat.le_mul_of_pos_left _ (by omega))
theorem prodN_ge {b f : Nat} : ∀ l : List Nat, Dgf b f l → f ^ l.length ≤ prodN l
  | [], _ => by simp [prodN]
  | d :: l, h => by
    have h1 := h d (by simp)
    have h2 := prodN_ge l (fun x hx => h x (by simp [hx]))
    rw [List.length_cons, Nat.pow_succ, Nat.mul_comm]
    exact Nat.mul_le_mul h1.1 h2
theorem prodN_le {b f : Nat} : ∀ l : List Nat, Dgf b f l → prodN l ≤ (b - 1) ^ l.length
  | [], _ => by simp [prodN]
  | d :: l, h => by
    have h1 := h d (by simp)
    have h2 := prodN_le l (fun x hx => h x (by simp [hx]))
    rw [List.length_cons, Nat.pow_succ, Nat.mul_comm ((b - 1) ^ l.length)]
    exact Nat.mul_le_mul (by omega) h2

theorem ctL_pos {S : Nat → Nat} {p : Nat} : ∀ (k d : Nat), (∃ e, d ≤ e ∧ e < d + k ∧ p % e = 0 ∧ S (p / e) ≠ 0) → ctL S p k d ≠ 0
  | 0, d, ⟨e, h1, h2, _⟩ => by omega
  | k + 1, d, ⟨e, h1, h2, h3, h4⟩ => by
    rw [ctL]
    by_cases he : e = d
    · subst he
      rw [if_pos h3]; omega
    · have := ctL_pos k (d + 1) ⟨e, by omega, by omega, h3, h4⟩
      omega
theorem ctL_ex {S : Nat → Nat} {p : Nat} : ∀ (k d : Nat), ctL S p k d ≠ 0 → ∃ e, d ≤ e ∧ e < d + k ∧ p % e = 0 ∧ S (p / e) ≠ 0
  | 0, d, h => absurd rfl h
  | k + 1, d, h => by
    rw [ctL] at h
    by_cases hm : p % d = 0
    · by_cases hs : S (p / d) = 0
      · rw [if_pos hm, hs, Nat.zero_add] at h
        obtain ⟨e, a, b, c⟩ := ctL_ex k (d + 1) h
        exact ⟨e, by omega, by omega, c⟩
      · exact ⟨d, Nat.le_refl _, by omega, hm, hs⟩
    · rw [if_neg hm, Nat.zero_add] at h
      obtain ⟨e, a, b, c⟩ := ctL_ex k (d + 1) h
      exact ⟨e, by omega, by omega, c⟩

theorem ct_list (b : Nat) : ∀ l : List Nat, Dgf b 2 l → ct b (prodN l) ≠ 0
  | [], _ => by rw [prodN, ct_one b 1 (Nat.le_refl _)]; omega
  | d :: l, h => by
    have h1 := h d (by simp)
    have hl : Dgf b 2 l := fun x hx => h x (by simp [hx])
    have h2 := ct_list b l hl
    have h3 := prodN_pos (by omega) l hl
    have h4 : 2 ≤ d * prodN l := Nat.le_trans h1.1 (Nat.le_mul_of_pos_right _ h3)
    rw [prodN, ct_step b _ h4]
    refine ctL_pos _ _ ⟨d, h1.1, by omega, Nat.mul_mod_right _ _, ?_⟩
    rw [Nat.mul_div_cancel_left _ (by omega)]
    exact h2

/-- What the search for the fewest digits has found behind the digits below x. -/
def Found (S : Nat → Nat) (M : Nat → Nat × Nat) (p x : Nat) (a : Nat × Nat) : Prop :=
  (a.2 = 0 ∧ ∀ e, 2 ≤ e → e < x → ¬ (p % e = 0 ∧ S (p / e) ≠ 0)) ∨
  (2 ≤ a.2 ∧ a.2 < x ∧ p % a.2 = 0 ∧ S (p / a.2) ≠ 0 ∧ a.1 = (M (p / a.2)).1 + 1 ∧ ∀ e, 2 ≤ e → e < x → p % e = 0 → S (p / e) ≠ 0 → a.1 ≤ (M (p / e)).1 + 1 ∧ ((M (p / e)).1 + 1 = a.1 → a.2 ≤ e))

theorem mfL_found {S : Nat → Nat} {M : Nat → Nat × Nat} {p : Nat} : ∀ (k d : Nat) (a : Nat × Nat), 2 ≤ d → Found S M p d a → Found S M p (d + k) (mfL S M p k d a)
  | 0, d, a, _, h => h
  | k + 1, d, a, hd, h => by
    rw [mfL, show d + (k + 1) = (d + 1) + k by omega]
    refine mfL_found k (d + 1) _ (by omega) ?_
    by_cases hc : p % d = 0 ∧ S (p / d) ≠ 0 ∧ (a.2 = 0 ∨ (M (p / d)).1 + 1 < a.1)
    · rw [if_pos hc]
      right
      refine ⟨hd, by show d < d + 1; omega, hc.1, hc.2.1, rfl, ?_⟩
      intro e he1 he2 he3 he4
      by_cases e' : e = d
      · subst e'; exact ⟨Nat.le_refl _, fun _ => Nat.le_refl _⟩
      · rcases h with ⟨h1, h2⟩ | ⟨h1, h2, h3, h4, h5, h6⟩
        · exact absurd ⟨he3, he4⟩ (h2 e he1 (by omega))
        · have h7 := h6 e he1 (by omega) he3 he4
          have h8 : (M (p / d)).1 + 1 < a.1 := by
            rcases hc.2.2 with h0 | h0
            · omega
            · exact h0
          refine ⟨by show (M (p / d)).1 + 1 ≤ _; omega, fun h9 => ?_⟩
          have h9' : (M (p / e)).1 + 1 = (M (p / d)).1 + 1 := h9
          omega
    · rw [if_neg hc]
      rcases h with ⟨h1, h2⟩ | ⟨h1, h2, h3, h4, h5, h6⟩
      · left
        refine ⟨h1, fun e he1 he2 he3 => ?_⟩
        by_cases e' : e = d
        · subst e'; exact hc ⟨he3.1, he3.2, .inl h1⟩
        · exact h2 e he1 (by omega) he3
      · right
        refine ⟨h1, by omega, h3, h4, h5, ?_⟩
        intro e he1 he2 he3 he4
        by_cases e' : e = d
        · subst e'
          have : ¬ (M (p / e)).1 + 1 < a.1 := fun h => hc ⟨he3, he4, .inr h⟩
          exact ⟨by omega, fun _ => by omega⟩
        · exact h6 e he1 (by omega) he3 he4

theorem mf_spec {b p : Nat} (h2 : 2 ≤ p) (hc : ct b p ≠ 0) : 2 ≤ (mf b p).2 ∧ (mf b p).2 < b ∧ p % (mf b p).2 = 0 ∧ ct b (p / (mf b p).2) ≠ 0 ∧ (mf b p).1 = (mf b (p / (mf b p).2)).1 + 1 ∧
    ∀ e, 2 ≤ e → e < b → p % e = 0 → ct b (p / e) ≠ 0 → (mf b p).1 ≤ (mf b (p / e)).1 + 1 ∧ ((mf b (p / e)).1 + 1 = (mf b p).1 → (mf b p).2 ≤ e) := by
  rw [ct_step b p h2] at hc
  obtain ⟨e, e1, e2, e3, e4⟩ := ctL_ex _ _ hc
  have h := mfL_found (S := ct b) (M := mf b) (p := p) (b - 2) 2 (0, 0) (Nat.le_refl _) (.inl ⟨rfl, fun e h1 h2 => by omega⟩)
  rw [← mf_step b p h2] at h
  rw [show 2 + (b - 2) = b by omega] at h
  rcases h with ⟨_, h⟩ | ⟨h1, h3, h4, h5, h6, h7⟩
  · exact absurd ⟨e3, e4⟩ (h e e1 (by omega))
  · exact ⟨h1, h3, h4, h5, h6, h7⟩

theorem fw_le (b : Nat) : ∀ l : List Nat, Dgf b 2 l → (mf b (prodN l)).1 ≤ l.length
  | [], _ => by rw [prodN, mf_one b 1 (Nat.le_refl _)]; exact Nat.zero_le _
  | d :: l, h => by
    have h1 := h d (by simp)
    have hl : Dgf b 2 l := fun x hx => h x (by simp [hx])
    have h2 := fw_le b l hl
    have h3 := prodN_pos (by omega) l hl
    have h4 : 2 ≤ d * prodN l := Nat.le_trans h1.1 (Nat.le_mul_of_pos_right _ h3)
    have hc := ct_list b (d :: l) h
    have hdiv : d * prodN l / d = prodN l := Nat.mul_div_cancel_left _ (by omega)
    obtain ⟨_, _, _, _, _, h5⟩ := mf_spec (b := b) (p := prodN (d :: l)) h4 hc
    have := (h5 d h1.1 h1.2 (Nat.mul_mod_right _ _) (by rw [show prodN (d :: l) / d = prodN l from hdiv]; exact ct_list b l hl)).1
    rw [show prodN (d :: l) / d = prodN l from hdiv] at this
    simp only [List.length_cons]
    omega

/-- The digits: the least one in front for which as few are enough, and so on. -/
def grF (b : Nat) : Nat → Nat → List Nat
  | 0, _ => []
  | f + 1, p => if p ≤ 1 then [] else (mf b p).2 :: grF b f (p / (mf b p).2)
def gr (b p : Nat) : List Nat := grF b p p
theorem gr_one (b p : Nat) (h : p ≤ 1) : gr b p = [] := by
  unfold gr
  cases p with
  | zero => rfl
  | succ p => rw [grF, if_pos h]
theorem grF_fuel (b : Nat) : ∀ (f g p : Nat), p ≤ f → p ≤ g → ct b p ≠ 0 → grF b f p = grF b g p
  | 0, g, p, hf, hg, _ => by
    obtain rfl : p = 0 := by omega
    cases g with
    | zero => rfl
    | succ g => simp [grF]
  | f + 1, 0, p, hf, hg, _ => by
    obtain rfl : p = 0 := by omega
    simp [grF]
  | f + 1, g + 1, p, hf, hg, hc => by
    rw [grF, grF]
    by_cases hp : p ≤ 1
    · rw [if_pos hp, if_pos hp]
    · rw [if_neg hp, if_neg hp]
      obtain ⟨h1, _, _, h4, _, _⟩ := mf_spec (by omega) hc
      have hlt : p / (mf b p).2 < p := Nat.div_lt_self (by omega) (by omega)
      rw [grF_fuel b f g (p / (mf b p).2) (by omega) (by omega) h4]
theorem gr_step {b p : Nat} (h2 : 2 ≤ p) (hc : ct b p ≠ 0) : gr b p = (mf b p).2 :: gr b (p / (mf b p).2) := by
  obtain ⟨h1, _, _, h4, _, _⟩ := mf_spec h2 hc
  have hlt : p / (mf b p).2 < p := Nat.div_lt_self (by omega) (by omega)
  unfold gr
  obtain ⟨q, rfl⟩ : ∃ q, p = q + 1 := ⟨p - 1, by omega⟩
  rw [grF, if_neg (by omega), grF_fuel b q ((q + 1) / (mf b (q + 1)).2) _ (by omega) (Nat.le_refl _) h4]

theorem gr_spec (b : Nat) : ∀ p : Nat, 1 ≤ p → ct b p ≠ 0 → Dgf b 2 (gr b p) ∧ prodN (gr b p) = p ∧ (gr b p).length = (mf b p).1 ∧ (∀ d l, gr b p = d :: l → Dgf b d (d :: l)) := by
  intro p
  induction p using Nat.strongRecOn with
  | ind p ih =>
    intro hp hc
    by_cases h1 : p = 1
    · subst h1
      rw [gr_one b 1 (Nat.le_refl _), mf_one b 1 (Nat.le_refl _)]
      exact ⟨fun d hd => by simp at hd, rfl, rfl, fun d l h => by cases h⟩
    · have h2 : 2 ≤ p := by omega
      obtain ⟨m1, m2, m3, m4, m5, m6⟩ := mf_spec h2 hc
      obtain ⟨e, he⟩ : ∃ e, e = (mf b p).2 := ⟨_, rfl⟩
      have hst := gr_step h2 hc
      rw [← he] at m1 m2 m3 m4 m5 m6 hst
      have hpe : e * (p / e) = p := Nat.mul_div_cancel' (Nat.dvd_of_mod_eq_zero m3)
      have hq1 : 1 ≤ p / e := by
        by_cases h0 : p / e = 0
        · rw [h0] at hpe; omega
        · exact Nat.pos_of_ne_zero h0
      have hlt : p / e < p := Nat.div_lt_self (by omega) (by omega)
      obtain ⟨i1, i2, i3, i4⟩ := ih (p / e) hlt hq1 m4
      rw [hst]
      refine ⟨?_, ?_, ?_, ?_⟩
      · intro d hd
        rcases List.mem_cons.1 hd with rfl | hd
        · exact ⟨m1, m2⟩
        · exact i1 d hd
      · rw [prodN, i2, hpe]
      · rw [List.length_cons, i3, m5]
      · intro d l h
        obtain ⟨rfl, rfl⟩ := List.cons.inj h
        intro x hx
        rcases List.mem_cons.1 hx with rfl | hx
        · exact ⟨Nat.le_refl _, m2⟩
        · refine ⟨?_, (i1 x hx).2⟩
          -- the head of the rest is not less
          cases hg : gr b (p / e) with
          | nil => rw [hg] at hx; simp at hx
          | cons y t =>
            have hy := i4 y t hg
            rw [hg] at hx i1 i2 i3
            have hxy := (hy x hx).1
            have hyb := i1 y (by simp)
            have ht : Dgf b 2 (e :: t) := by
              intro z hz
              rcases List.mem_cons.1 hz with rfl | hz
              · exact ⟨m1, m2⟩
              · exact i1 z (by simp [hz])
            have hpy : p = y * prodN (e :: t) := by
              rw [← hpe, ← i2, prodN, prodN]
              exact Nat.mul_left_comm _ _ _
            have hdy : p / y = prodN (e :: t) := by rw [hpy]; exact Nat.mul_div_cancel_left _ (by omega)
            have hmy : p % y = 0 := by rw [hpy]; exact Nat.mul_mod_right _ _
            have hcy : ct b (p / y) ≠ 0 := by rw [hdy]; exact ct_list b _ ht
            have hfy := fw_le b _ ht
            rw [← hdy] at hfy
            obtain ⟨k1, k2⟩ := m6 y hyb.1 hyb.2 hmy hcy
            simp only [List.length_cons] at hfy i3
            have := k2 (by omega)
            omega

/-- A power, or 10^18 if it is greater. -/
def limN (x : Nat) : Nat → Nat → Nat
  | 0, out => out
  | p + 1, out => if 1000000000000000000 / x < out then 1000000000000000000 else limN x p (out * x)
theorem limN_step (x r t : Nat) : limN x (r + 1) t = if 1000000000000000000 / x < t then 1000000000000000000 else limN x r (t * x) := rfl
theorem limN_cases {x : Nat} (hx : 1 ≤ x) : ∀ (m t : Nat), limN x m t = t * x ^ m ∨ (limN x m t = 1000000000000000000 ∧ 1000000000000000000 < t * x ^ m)
  | 0, t => .inl (by simp [limN])
  | m + 1, t => by
    rw [limN_step]
    by_cases h : 1000000000000000000 / x < t
    · rw [if_pos h]
      right
      refine ⟨rfl, ?_⟩
      have h1 : 1000000000000000000 < t * x := (Nat.div_lt_iff_lt_mul hx).1 h
      have h2 : t * x ≤ t * x ^ (m + 1) := Nat.mul_le_mul_left _ (by rw [Nat.pow_succ]; exact Nat.le_mul_of_pos_left _ (Nat.pow_pos hx))
      omega
    · rw [if_neg h]
      have h3 : t * x * x ^ m = t * x ^ (m + 1) := by rw [Nat.pow_succ, Nat.mul_assoc, Nat.mul_comm x]
      rcases limN_cases hx m (t * x) with h4 | ⟨h4, h5⟩
      · left; rw [h4, h3]
      · right; rw [h3] at h5; exact ⟨h4, h5⟩
theorem limN_ge {x m r : Nat} (hx : 1 ≤ x) (h : r ≤ x ^ m) (hr : r ≤ 1000000000000) : r ≤ limN x m 1 := by
  rcases limN_cases hx m 1 with h1 | ⟨h1, _⟩
  · rw [h1]; omega
  · rw [h1]; omega
theorem limN_le {x m r : Nat} (hx : 1 ≤ x) (h : x ^ m ≤ r) (hr : r ≤ 1000000000000) : limN x m 1 ≤ r := by
  rcases limN_cases hx m 1 with h1 | ⟨_, h2⟩
  · rw [h1]; omega
  · omega

/-- The model's first list: the digits from d on, tried one after the other. -/
def spK (b m : Nat) (R : Nat → Nat → List Nat) (p : Nat) : Nat → Nat → List Nat
  | 0, _ => []
  | k + 1, d => if p % d ≠ 0 ∨ limN (b - 1) m 1 < p / d then spK b m R p k (d + 1) else if p / d < limN d m 1 then [] else if (R d (p / d)).length = 0 then spK b m R p k (d + 1) else d :: R d (p / d)
/-- The model's first list of n + 1 digits from f on. -/
def spF (b : Nat) : Nat → Nat → Nat → List Nat
  | 0, f, p => if f ≤ p ∧ p ≤ b - 1 then [p] else []
  | n + 1, f, p => spK b (n + 1) (spF b n) p (b - f) f

theorem spK_sound {b m : Nat} {R : Nat → Nat → List Nat} {p : Nat} : ∀ (k d : Nat), spK b m R p k d ≠ [] → ∃ e, d ≤ e ∧ e < d + k ∧ p % e = 0 ∧ R e (p / e) ≠ [] ∧ spK b m R p k d = e :: R e (p / e)
  | 0, d, h => absurd rfl h
  | k + 1, d, h => by
    rw [spK] at h ⊢
    by_cases h1 : p % d ≠ 0 ∨ limN (b - 1) m 1 < p / d
    · rw [if_pos h1] at h ⊢
      obtain ⟨e, a, c, x⟩ := spK_sound k (d + 1) h
      exact ⟨e, by omega, by omega, x⟩
    · rw [if_neg h1] at h ⊢
      by_cases h2 : p / d < limN d m 1
      · rw [if_pos h2] at h; exact absurd rfl h
      · rw [if_neg h2] at h ⊢
        by_cases h3 : (R d (p / d)).length = 0
        · rw [if_pos h3] at h ⊢
          obtain ⟨e, a, c, x⟩ := spK_sound k (d + 1) h
          exact ⟨e, by omega, by omega, x⟩
        · rw [if_neg h3]
          exact ⟨d, Nat.le_refl _, by omega, by omega, fun e => h3 (by rw [e]; rfl), rfl⟩
theorem spF_sound {b : Nat} (hb : 2 ≤ b) : ∀ (n f p : Nat), 2 ≤ f → spF b n f p ≠ [] → (spF b n f p).length = n + 1 ∧ Dgf b f (spF b n f p) ∧ prodN (spF b n f p) = p
  | 0, f, p, hf, h => by
    rw [spF] at h ⊢
    by_cases h1 : f ≤ p ∧ p ≤ b - 1
    · rw [if_pos h1]
      refine ⟨rfl, fun d hd => ?_, Nat.mul_one p⟩
      obtain rfl := List.mem_singleton.1 hd
      omega
    · rw [if_neg h1] at h; exact absurd rfl h
  | n + 1, f, p, hf, h => by
    rw [spF] at h ⊢
    obtain ⟨e, e1, e2, e3, e4, e5⟩ := spK_sound _ _ h
    obtain ⟨i1, i2, i3⟩ := spF_sound hb n e (p / e) (by omega) e4
    rw [e5]
    refine ⟨by rw [List.length_cons, i1], ?_, ?_⟩
    · intro d hd
      rcases List.mem_cons.1 hd with rfl | hd
      · exact ⟨e1, by omega⟩
      · have := i2 d hd; exact ⟨by omega, this.2⟩
    · rw [prodN, i3]
      exact Nat.mul_div_cancel' (Nat.dvd_of_mod_eq_zero e3)
theorem dgf_mono {b f g : Nat} {l : List Nat} (h : Dgf b g l) (hfg : f ≤ g) : Dgf b f l := fun d hd => ⟨Nat.le_trans hfg (h d hd).1, (h d hd).2⟩

/-- With fewer digits than the fewest there is no list. -/
theorem sp_none {b n p : Nat} (hb : 2 ≤ b) (h : n + 1 < (mf b p).1) : spF b n 2 p = [] := by
  by_cases he : spF b n 2 p = []
  · exact he
  · obtain ⟨a, c, d⟩ := spF_sound hb n 2 p (Nat.le_refl _) he
    have := fw_le b _ c
    rw [d, a] at this
    omega

/-- With the fewest digits the model's first list is the program's. -/
theorem sp_first {b : Nat} (hb : 2 ≤ b) : ∀ (n f p : Nat), 2 ≤ f → 2 ≤ p → p ≤ 1000000000000 → ct b p ≠ 0 → (mf b p).1 = n + 1 → f ≤ (mf b p).2 → spF b n f p = gr b p
  | 0, f, p, hf, h2, hp, hc, hn, hfe => by
    obtain ⟨g1, g2, g3, g4⟩ := gr_spec b p (by omega) hc
    obtain ⟨m1, m2, m3, m4, m5, m6⟩ := mf_spec h2 hc
    have hst := gr_step h2 hc
    have hl : gr b (p / (mf b p).2) = [] := by
      have h1 : (gr b p).length = 1 := by rw [g3, hn]
      rw [hst, List.length_cons] at h1
      exact List.eq_nil_of_length_eq_zero (by omega)
    rw [hl] at hst
    rw [hst, prodN, prodN, Nat.mul_one] at g2
    rw [hst, g2, spF, if_pos ⟨by omega, by omega⟩]
  | n + 1, f, p, hf, h2, hp, hc, hn, hfe => by
    obtain ⟨g1, g2, g3, g4⟩ := gr_spec b p (by omega) hc
    obtain ⟨m1, m2, m3, m4, m5, m6⟩ := mf_spec h2 hc
    have hst := gr_step h2 hc
    obtain ⟨e, he⟩ : ∃ e, e = (mf b p).2 := ⟨_, rfl⟩
    rw [← he] at m1 m2 m3 m4 m5 m6 hst hfe
    have hpe : e * (p / e) = p := Nat.mul_div_cancel' (Nat.dvd_of_mod_eq_zero m3)
    have hq1 : 1 ≤ p / e := by
      by_cases h0 : p / e = 0
      · rw [h0] at hpe; omega
      · exact Nat.pos_of_ne_zero h0
    have hlt : p / e < p := Nat.div_lt_self (by omega) (by omega)
    obtain ⟨i1, i2, i3, i4⟩ := gr_spec b (p / e) hq1 m4
    have hrl : (gr b (p / e)).length = n + 1 := by rw [i3]; omega
    have hde := g4 e _ hst
    have hdr : Dgf b e (gr b (p / e)) := fun x hx => hde x (by simp [hx])
    have hr2 : 2 ≤ p / e := by
      have h1 := prodN_ge _ i1
      rw [i2, hrl, Nat.pow_succ] at h1
      have h3 : 1 ≤ 2 ^ n := Nat.pow_pos (by omega)
      omega
    have hfr : e ≤ (mf b (p / e)).2 := by
      have h1 := gr_step hr2 m4
      rw [h1] at hdr
      exact (hdr _ (by simp)).1
    have hrec : spF b n e (p / e) = gr b (p / e) := sp_first hb n e (p / e) m1 hr2 (by omega) m4 (by omega) hfr
    have hup : p / e ≤ limN (b - 1) (n + 1) 1 := limN_ge (by omega) (by have := prodN_le _ i1; rw [i2, hrl] at this; exact this) (by omega)
    have hlo : limN e (n + 1) 1 ≤ p / e := limN_le (by omega) (by have := prodN_ge _ hdr; rw [i2, hrl] at this; exact this) (by omega)
    rw [spF, hst]
    -- from f on to e
    have walk : ∀ (j d : Nat), d + j = e → f ≤ d → ∀ k, d + k = b → spK b (n + 1) (spF b n) p k d = e :: gr b (p / e) := by
      intro j
      induction j with
      | zero =>
        intro d hd hfd k hk
        obtain rfl : d = e := by omega
        obtain ⟨k', rfl⟩ : ∃ k', k = k' + 1 := ⟨k - 1, by omega⟩
        rw [spK, if_neg (by omega), if_neg (by omega), hrec, if_neg (by omega)]
      | succ j ih =>
        intro d hd hfd k hk
        obtain ⟨k', rfl⟩ : ∃ k', k = k' + 1 := ⟨k - 1, by omega⟩
        rw [spK]
        by_cases h1 : p % d ≠ 0 ∨ limN (b - 1) (n + 1) 1 < p / d
        · rw [if_pos h1]; exact ih (d + 1) (by omega) (by omega) k' (by omega)
        · rw [if_neg h1]
          have hpd : d * (p / d) = p := Nat.mul_div_cancel' (Nat.dvd_of_mod_eq_zero (by omega))
          have hpow : d ^ (n + 1) ≤ p / d := by
            have h3 := prodN_ge _ hdr
            rw [i2, hrl] at h3
            have h4 : d ^ (n + 1) ≤ e ^ (n + 1) := Nat.pow_le_pow_left (by omega) _
            have h5 : p / e ≤ p / d := Nat.div_le_div_left (by omega) (by omega)
            omega
          have hpdl : p / d ≤ 1000000000000 := Nat.le_trans (Nat.div_le_self _ _) hp
          have h6 : ¬ p / d < limN d (n + 1) 1 := by
            have := limN_le (x := d) (by omega) hpow hpdl
            omega
          rw [if_neg h6]
          have h7 : spF b n d (p / d) = [] := by
            by_cases h8 : spF b n d (p / d) = []
            · exact h8
            · exfalso
              obtain ⟨a1, a2, a3⟩ := spF_sound hb n d (p / d) (by omega) h8
              have a4 := fw_le b _ (dgf_mono a2 (show 2 ≤ d by omega))
              have a5 := ct_list b _ (dgf_mono a2 (show 2 ≤ d by omega))
              rw [a3] at a4 a5
              rw [a1] at a4
              obtain ⟨k1, k2⟩ := m6 d (by omega) (by omega) (by omega) a5
              have := k2 (by omega)
              omega
          rw [h7, List.length_nil, if_pos rfl]
          exact ih (d + 1) (by omega) (by omega) k' (by omega)
    exact walk (e - f) f (by omega) (Nat.le_refl _) (b - f) (by omega)

theorem fw_40 {b p : Nat} (h1 : 1 ≤ p) (hp : p ≤ 1000000000000) (hc : ct b p ≠ 0) : (mf b p).1 ≤ 39 := by
  obtain ⟨g1, g2, g3, _⟩ := gr_spec b p h1 hc
  have h := prodN_ge _ g1
  rw [g2, g3] at h
  by_cases h2 : (mf b p).1 ≤ 39
  · exact h2
  · exfalso
    have h3 : 2 ^ 40 ≤ 2 ^ (mf b p).1 := Nat.pow_le_pow_right (by omega) (by omega)
    have h4 : (2:Nat) ^ 40 = 1099511627776 := by decide
    omega

/-! Smooth: a product of digits leaves 1. -/
theorem dvo_props {d : Int} (hd : 2 ≤ d) : ∀ (k : Nat) (n : Int), n.toNat ≤ k → 0 < n → 0 < dvo d n ∧ dvo d n ∣ n ∧ ¬ d ∣ dvo d n
  | 0, n, h, hn => by omega
  | k + 1, n, h, hn => by
    by_cases hm : n % d = 0
    · rw [dvo_step hd hn hm]
      have h1 : 0 < n / d := div_pos0 hd hn hm
      have h2 := (div_less hd hn).2
      obtain ⟨a, b, c⟩ := dvo_props hd k (n / d) (by omega) h1
      refine ⟨a, Int.dvd_trans b ?_, c⟩
      exact ⟨d, (Int.ediv_mul_cancel (Int.dvd_of_emod_eq_zero hm)).symm⟩
    · rw [dvo_end hm]
      exact ⟨hn, Int.dvd_refl _, fun h => hm (Int.emod_eq_zero_of_dvd h)⟩
theorem smR_props : ∀ (k : Nat) (d n : Int), 2 ≤ d → 0 < n → 0 < smR k d n ∧ smR k d n ∣ n ∧ ∀ e : Int, d ≤ e → e < d + k → ¬ e ∣ smR k d n
  | 0, d, n, hd, hn => ⟨hn, Int.dvd_refl _, fun e h1 h2 => by omega⟩
  | k + 1, d, n, hd, hn => by
    obtain ⟨a, b, c⟩ := dvo_props hd n.toNat n (Nat.le_refl _) hn
    obtain ⟨x, y, z⟩ := smR_props k (d + 1) (dvo d n) (by omega) a
    refine ⟨x, Int.dvd_trans y b, fun e h1 h2 => ?_⟩
    by_cases he : e = d
    · subst he
      exact fun h => c (Int.dvd_trans h y)
    · exact z e (by omega) (by omega)
theorem coprime_prod (r : Nat) : ∀ l : List Nat, (∀ d ∈ l, Nat.Coprime r d) → Nat.Coprime r (prodN l)
  | [], _ => Nat.coprime_one_right r
  | d :: l, h => Nat.Coprime.mul_right (h d (by simp)) (coprime_prod r l (fun x hx => h x (by simp [hx])))
theorem smo_list {b : Nat} (hb : 2 ≤ b) (l : List Nat) (h : Dgf b 2 l) : smo (b : Int) (prodN l : Int) = true := by
  have hp := prodN_pos (by omega) l h
  obtain ⟨a1, a2, a3⟩ := smR_props (((b : Int) - 2).toNat) 2 (prodN l : Int) (by omega) (by omega)
  obtain ⟨r, hr⟩ : ∃ r : Nat, smR (((b : Int) - 2).toNat) 2 (prodN l : Int) = (r : Int) := ⟨(smR (((b : Int) - 2).toNat) 2 (prodN l : Int)).toNat, by omega⟩
  rw [smo, hr]
  rw [hr] at a1 a2 a3
  refine decide_eq_true ?_
  by_cases h1 : r = 1
  · rw [h1]; rfl
  · exfalso
    have hdv : r ∣ prodN l := Int.natCast_dvd_natCast.1 a2
    by_cases hall : ∀ d ∈ l, Nat.Coprime r d
    · have h2 := coprime_prod r l hall
      have h3 : Nat.gcd r (prodN l) = r := Nat.gcd_eq_left hdv
      rw [Nat.Coprime, h3] at h2
      exact h1 h2
    · have : ∃ d ∈ l, ¬ Nat.Coprime r d := by
        by_cases hx : ∃ d ∈ l, ¬ Nat.Coprime r d
        · exact hx
        · exact absurd (fun d hd => by
            by_cases hc : Nat.Coprime r d
            · exact hc
            · exact absurd ⟨d, hd, hc⟩ hx) hall
      obtain ⟨d, hd, hc⟩ := this
      have hdb := h d hd
      have hg1 : Nat.gcd r d ≤ d := Nat.gcd_le_right r (by omega)
      have hg2 : 0 < Nat.gcd r d := Nat.gcd_pos_of_pos_right r (by omega)
      have hg3 : Nat.gcd r d ≠ 1 := hc
      refine a3 ((Nat.gcd r d : Nat) : Int) (by omega) (by omega) ?_
      exact Int.natCast_dvd_natCast.2 (Nat.gcd_dvd_left r d)
theorem smo_ct {b p : Nat} (hb : 2 ≤ b) (hp : 1 ≤ p) (hc : ct b p ≠ 0) : smo (b : Int) (p : Int) = true := by
  obtain ⟨g1, g2, _, _⟩ := gr_spec b p hp hc
  have := smo_list hb _ g1
  rwa [g2] at this

end Go.Proofs.Ytgiabadkbfbilaa
