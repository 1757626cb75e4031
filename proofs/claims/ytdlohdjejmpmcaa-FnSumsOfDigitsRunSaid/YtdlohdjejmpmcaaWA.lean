/-
  Products of digits, runs of products and of sums: plain mathematics.
-/
import Derived.Test.YtdlohdjejmpmcaaD2
namespace Go.Proofs.Ytdlohdjejmpmcaa
open Go.RowKit
set_option linter.unusedVariables false
set_option linter.unusedSimpArgs false

theorem wrap_id {n : Int} (h : -9223372036854775808 ≤ n) (h' : n < 9223372036854775808) : wrap64 n = n := by
  unfold wrap64; omega

theorem prodW_snoc (d : Int) : ∀ (xs : List Int) (m : Int), prodW (xs ++ [d]) m = wrap64 (prodW xs m * d)
  | [], m => rfl
  | x :: xs, m => by
    rw [List.cons_append, prodW, prodW_snoc d xs, prodW]

theorem dgs_small (b n : Int) (h : ¬ b ≤ n) : dgs b n = [n] := by
  rw [dgs, revD_small b n h]; rfl

theorem dgs_big (b n : Int) (hb : 2 ≤ b) (h : b ≤ n) : dgs b n = dgs b (n / b) ++ [n % b] := by
  rw [dgs, revD_big b n hb h, List.reverse_cons]; rfl

/-- The product of the digits. -/
def pd (b n : Int) : Int := prodW (dgs b n) 1
/-- The sum of the digits. -/
def sd (b n : Int) : Int := (dgs b n).sum

theorem pd_small (b n : Int) (h0 : 0 ≤ n) (h1 : n ≤ 1000000000000) (h : ¬ b ≤ n) : pd b n = n := by
  rw [pd, dgs_small b n h, prodW, prodW, Int.one_mul, wrap_id (by omega) (by omega)]

theorem pd_big (b n : Int) (hb : 2 ≤ b) (h : b ≤ n) : pd b n = wrap64 (pd b (n / b) * (n % b)) := by
  rw [pd, dgs_big b n hb h, prodW_snoc]; rfl

theorem pd_bd (b : Int) (hb : 2 ≤ b) (hb' : b ≤ 16) : ∀ (k : Nat) (n : Int), n.toNat ≤ k → 0 ≤ n → n ≤ 1000000000000 →
    0 ≤ pd b n ∧ pd b n ≤ n ∧ (b ≤ n → pd b n * b ≤ n * (b - 1) ∧ pd b n = pd b (n / b) * (n % b)) := by
  intro k
  induction k with
  | zero =>
    intro n hk h0 h1
    rw [pd_small b n h0 h1 (by omega)]
    exact ⟨h0, Int.le_refl _, fun h => by omega⟩
  | succ k ih =>
    intro n hk h0 h1
    by_cases h : b ≤ n
    · have h2 := div_lt b n hb h
      obtain ⟨m0, m1⟩ := mod_bd b n hb
      have h6 := div_mod b n
      obtain ⟨i0, i1, _⟩ := ih (n / b) (by omega) h2.1 (by omega)
      rw [pd_big b n hb h]
      obtain ⟨q, hq⟩ : ∃ q, q = n / b := ⟨_, rfl⟩
      obtain ⟨r, hr⟩ : ∃ r, r = n % b := ⟨_, rfl⟩
      obtain ⟨p, hp⟩ : ∃ p, p = pd b q := ⟨_, rfl⟩
      rw [← hq] at h2 h6 i0 i1 ⊢
      rw [← hr] at m0 m1 h6 ⊢
      rw [← hp] at i0 i1 ⊢
      have a1 : 0 ≤ p * r := Int.mul_nonneg i0 m0
      have a2 : p * r ≤ q * (b - 1) := Int.le_trans (Int.mul_le_mul_of_nonneg_left (by omega) i0) (Int.mul_le_mul_of_nonneg_right i1 (by omega))
      have a3 : q * (b - 1) = b * q - q := by rw [Int.mul_sub, Int.mul_one, Int.mul_comm]
      have a4 : p * r ≤ n := by omega
      rw [wrap_id (by omega) (by omega)]
      refine ⟨a1, a4, fun _ => ⟨?_, rfl⟩⟩
      have a5 : p * r * b ≤ q * (b - 1) * b := Int.mul_le_mul_of_nonneg_right a2 (by omega)
      have a6 : q * (b - 1) * b = b * q * (b - 1) := by grind
      have a7 : b * q * (b - 1) ≤ n * (b - 1) := Int.mul_le_mul_of_nonneg_right (by omega) (by omega)
      omega
    · rw [pd_small b n h0 h1 h]
      exact ⟨h0, Int.le_refl _, fun h' => absurd h' h⟩

theorem pd_lt (b n : Int) (hb : 2 ≤ b) (hb' : b ≤ 16) (h0 : 0 ≤ n) (h1 : n ≤ 1000000000000) : 0 ≤ pd b n ∧ pd b n ≤ n ∧ (b ≤ n → pd b n < n) := by
  obtain ⟨a, c, d⟩ := pd_bd b hb hb' _ n (Nat.le_refl _) h0 h1
  refine ⟨a, c, fun h => ?_⟩
  have := (d h).1
  rw [Int.mul_sub, Int.mul_one] at this
  by_cases he : pd b n = n
  · rw [he] at this; omega
  · omega

/-- A number and those behind steps, up to the first one below b. -/
def ru (b : Int) (f : Int → Int) (n : Int) : List Int := if h : b ≤ n ∧ 0 ≤ f n ∧ f n < n then n :: ru b f (f n) else [n]
termination_by n.toNat
decreasing_by omega

theorem ru_step {b : Int} {f : Int → Int} {n : Int} (h : b ≤ n) (h0 : 0 ≤ f n) (h1 : f n < n) : ru b f n = n :: ru b f (f n) := by
  rw [ru, dif_pos ⟨h, h0, h1⟩]
theorem ru_end {b : Int} {f : Int → Int} {n : Int} (h : ¬ b ≤ n) : ru b f n = [n] := by
  rw [ru, dif_neg (fun c => h c.1)]

theorem ru_len (b : Int) (f : Int → Int) : ∀ (k : Nat) (n : Int), n.toNat ≤ k → (ru b f n).length ≤ n.toNat + 1 := by
  intro k
  induction k with
  | zero => intro n hk; rw [ru]; split <;> rename_i h <;> first | (simp; done) | omega
  | succ k ih =>
    intro n hk
    rw [ru]
    split
    · rename_i h
      have := ih (f n) (by omega)
      simp; omega
    · simp

theorem ru_pos (b : Int) (f : Int → Int) (n : Int) : 1 ≤ (ru b f n).length := by
  rw [ru]; split <;> simp

/-- The product run and the sum run. -/
def pru (b n : Int) : List Int := ru b (pd b) n
def sru (b n : Int) : List Int := ru b (sd b) n

theorem sd_bd (b n : Int) (hb : 2 ≤ b) (hb' : b ≤ 16) (h0 : 0 ≤ n) (h1 : n ≤ 1000000000000) : 0 ≤ sd b n ∧ sd b n ≤ n ∧ sd b n ≤ 600 ∧ (b ≤ n → sd b n < n) := by
  obtain ⟨a, c, d⟩ := dgs_sum b n hb h0
  have hl := dgs_len40 b n hb h0 h1
  have := (sum_bd (dgs b n) (b - 1) (dgs_all b n hb h0)).2
  refine ⟨a, c, ?_, d⟩
  have h2 : ((dgs b n).length : Int) * (b - 1) ≤ 40 * 15 := Int.mul_le_mul (by omega) (by omega) (by omega) (by omega)
  unfold sd
  omega

theorem sru_len (b n : Int) (hb : 2 ≤ b) (hb' : b ≤ 16) (h0 : 0 ≤ n) (h1 : n ≤ 1000000000000) : (sru b n).length ≤ 1000 := by
  obtain ⟨a, c, d, e⟩ := sd_bd b n hb hb' h0 h1
  by_cases h : b ≤ n
  · rw [sru, ru_step h a (e h), List.length_cons]
    have := ru_len b (sd b) _ (sd b n) (Nat.le_refl _)
    omega
  · rw [sru, ru_end h]; simp

theorem pru_len' (b : Int) (hb : 2 ≤ b) (hb' : b ≤ 16) : ∀ (k : Nat) (n : Int), 0 ≤ n → n ≤ 1000000000000 → n * (b - 1) ^ k < b * b ^ k → (pru b n).length ≤ k + 1 := by
  intro k
  induction k with
  | zero =>
    intro n h0 h1 h
    rw [pru, ru_end (by simp at h; omega)]; simp
  | succ k ih =>
    intro n h0 h1 h
    by_cases hn : b ≤ n
    · obtain ⟨p0, p1, p2⟩ := pd_bd b hb hb' _ n (Nat.le_refl _) h0 h1
      have p3 := (p2 hn).1
      rw [pru, ru_step hn p0 ((pd_lt b n hb hb' h0 h1).2.2 hn), List.length_cons]
      have : (pru b (pd b n)).length ≤ k + 1 := by
        refine ih _ p0 (by omega) ?_
        have c0 : 0 ≤ (b - 1) ^ k := Int.pow_nonneg (by omega)
        have c1 : pd b n * b * (b - 1) ^ k ≤ n * (b - 1) * (b - 1) ^ k := Int.mul_le_mul_of_nonneg_right p3 c0
        have c2 : n * (b - 1) * (b - 1) ^ k = n * (b - 1) ^ (k + 1) := by rw [Int.pow_succ]; grind
        have c3 : pd b n * b * (b - 1) ^ k = b * (pd b n * (b - 1) ^ k) := by grind
        have c4 : b * b ^ (k + 1) = b * (b * b ^ k) := by rw [Int.pow_succ]; grind
        exact Int.lt_of_mul_lt_mul_left (a := b) (by omega) (by omega)
      exact Nat.succ_le_succ this
    · rw [pru, ru_end hn]; simp

theorem pow_400 (b : Int) (hb : 2 ≤ b) (hb' : b ≤ 16) : 1000000000000 * (b - 1) ^ 400 < b * b ^ 400 := by
  have hc : b = 2 ∨ b = 3 ∨ b = 4 ∨ b = 5 ∨ b = 6 ∨ b = 7 ∨ b = 8 ∨ b = 9 ∨ b = 10 ∨ b = 11 ∨ b = 12 ∨ b = 13 ∨ b = 14 ∨ b = 15 ∨ b = 16 := by omega
  rcases hc with rfl | rfl | rfl | rfl | rfl | rfl | rfl | rfl | rfl | rfl | rfl | rfl | rfl | rfl | rfl <;> decide +kernel

theorem pru_len (b n : Int) (hb : 2 ≤ b) (hb' : b ≤ 16) (h0 : 0 ≤ n) (h1 : n ≤ 1000000000000) : (pru b n).length ≤ 1000 := by
  have := pru_len' b hb hb' 400 n h0 h1 (Int.lt_of_le_of_lt (Int.mul_le_mul_of_nonneg_right h1 (Int.pow_nonneg (by omega))) (pow_400 b hb hb'))
  omega

/-- The last one of a list. -/
def lastD (xs : List Int) : Int := xs.getD (xs.length - 1) 0

end Go.Proofs.Ytdlohdjejmpmcaa
