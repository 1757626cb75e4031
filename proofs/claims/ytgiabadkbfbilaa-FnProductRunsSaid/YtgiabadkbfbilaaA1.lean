/-
  Joint text of WA WB (written by wip/tools/merge.py).
-/
import Derived.Test.YtgiabadkbfbilaaD2
/- from XWA -/
namespace Go.Proofs.Ytgiabadkbfbilaa
open Go.RowKit
set_option linter.unusedVariables false
set_option linter.unusedSimpArgs false

theorem wrap_id {n : Int} (h : -9223372036854775808 ≤ n) (h' : n < 9223372036854775808) : wrap64 n = n := by
  unfold wrap64; omega

theorem prodW_snoc (d : Int) : ∀ (xs : List Int) (m : Int), prodW (xs ++ [d]) m = wrap64 (prodW xs m * d)
  | [], m => rfl
  | x :: xs, m => by
    rw [List.cons_append, prodW, prodW_snoc d xs, prodW]

theorem dgs_small (b n : Int) (h : ¬ b ≤ n) : dgs b n = [n] := by
  rw [dgs, revD_small b n h]; rfl

theorem dgs_big (b n : Int) (hb : 2 ≤ b) (h : b ≤ n) : dgs b n = dgs b (n / b) ++ [n % b] := by
  rw [dgs, revD_big b n hb h, List.reverse_cons]; rfl

/-- The product of the digits. -/
def pd (b n : Int) : Int := prodW (dgs b n) 1
/-- The sum of the digits. -/
def sd (b n : Int) : Int := (dgs b n).sum

theorem pd_small (b n : Int) (h0 : 0 ≤ n) (h1 : n ≤ 1000000000000) (h : ¬ b ≤ n) : pd b n = n := by
  rw [pd, dgs_small b n h, prodW, prodW, Int.one_mul, wrap_id (by omega) (by omega)]

theorem pd_big (b n : Int) (hb : 2 ≤ b) (h : b ≤ n) : pd b n = wrap64 (pd b (n / b) * (n % b)) := by
  rw [pd, dgs_big b n hb h, prodW_snoc]; rfl

theorem pd_bd (b : Int) (hb : 2 ≤ b) (hb' : b ≤ 16) : ∀ (k : Nat) (n : Int), n.toNat ≤ k → 0 ≤ n → n ≤ 1000000000000 →
    0 ≤ pd b n ∧ pd b n ≤ n ∧ (b ≤ n → pd b n * b ≤ n * (b - 1) ∧ pd b n = pd b (n / b) * (n % b)) := by
  intro k
  induction k with
  | zero =>
    intro n hk h0 h1
    rw [pd_small b n h0 h1 (by omega)]
    exact ⟨h0, Int.le_refl _, fun h => by omega⟩
  | succ k ih =>
    intro n hk h0 h1
    by_cases h : b ≤ n
    · have h2 := div_lt b n hb h
      obtain ⟨m0, m1⟩ := mod_bd b n hb
      have h6 := div_mod b n
      obtain ⟨i0, i1, _⟩ := ih (n / b) (by omega) h2.1 (by omega)
      rw [pd_big b n hb h]
      obtain ⟨q, hq⟩ : ∃ q, q = n / b := ⟨_, rfl⟩
      obtain ⟨r, hr⟩ : ∃ r, r = n % b := ⟨_, rfl⟩
      obtain ⟨p, hp⟩ : ∃ p, p = pd b q := ⟨_, rfl⟩
      rw [← hq] at h2 h6 i0 i1 ⊢
      rw [← hr] at m0 m1 h6 ⊢
      rw [← hp] at i0 i1 ⊢
      have a1 : 0 ≤ p * r := Int.mul_nonneg i0 m0
      have a2 : p * r ≤ q * (b - 1) := Int.le_trans (Int.mul_le_mul_of_nonneg_left (by omega) i0) (Int.mul_le_mul_of_nonneg_right i1 (by omega))
      have a3 : q * (b - 1) = b * q - q := by rw [Int.mul_sub, Int.mul_one, Int.mul_comm]
      have a4 : p * r ≤ n := by omega
      rw [wrap_id (by omega) (by omega)]
      refine ⟨a1, a4, fun _ => ⟨?_, rfl⟩⟩
      have a5 : p * r * b ≤ q * (b - 1) * b := Int.mul_le_mul_of_nonneg_right a2 (by omega)
      have a6 : q * (b - 1) * b = b * q * (b - 1) := by grind
      have a7 : b * q * (b - 1) ≤ n * (b - 1) := Int.mul_le_mul_of_nonneg_right (by omega) (by omega)
      omega
    · rw [pd_small b n h0 h1 h]
      exact ⟨h0, Int.le_refl _, fun h' => absurd h' h⟩

theorem pd_lt (b n : Int) (hb : 2 ≤ b) (hb' : b ≤ 16) (h0 : 0 ≤ n) (h1 : n ≤ 1000000000000) : 0 ≤ pd b n ∧ pd b n ≤ n ∧ (b ≤ n → pd b n < n) := by
  obtain ⟨a, c, d⟩ := pd_bd b hb hb' _ n (Nat.le_refl _) h0 h1
  refine ⟨a, c, fun h => ?_⟩
  have := (d h).1
  rw [Int.mul_sub, Int.mul_one] at this
  by_cases he : pd b n = n
  · rw [he] at this; omega
  · omega

/-- A number and those behind steps, up to the first one below b. -/
def ru (b : Int) (f : Int → Int) (n : Int) : List Int := if h : b ≤ n ∧ 0 ≤ f n ∧ f n < n then n :: ru b f (f n) else [n]
termination_by n.toNat
decreasing_by omega

theorem ru_step {b : Int} {f : Int → Int} {n : Int} (h : b ≤ n) (h0 : 0 ≤ f n) (h1 : f n < n) : ru b f n = n :: ru b f (f n) := by
  rw [ru, dif_pos ⟨h, h0, h1⟩]
theorem ru_end {b : Int} {f : Int → Int} {n : Int} (h : ¬ b ≤ n) : ru b f n = [n] := by
  rw [ru, dif_neg (fun c => h c.1)]

theorem ru_len (b : Int) (f : Int → Int) : ∀ (k : Nat) (n : Int), n.toNat ≤ k → (ru b f n).length ≤ n.toNat + 1 := by
  intro k
  induction k with
  | zero => intro n hk; rw [ru]; split <;> rename_i h <;> first | (simp; done) | omega
  | succ k ih =>
    intro n hk
    rw [ru]
    split
    · rename_i h
      have := ih (f n) (by omega)
      simp; omega
    · simp

theorem ru_pos (b : Int) (f : Int → Int) (n : Int) : 1 ≤ (ru b f n).length := by
  rw [ru]; split <;> simp

/-- The product run and the sum run. -/
def pru (b n : Int) : List Int := ru b (pd b) n
def sru (b n : Int) : List Int := ru b (sd b) n

theorem sd_bd (b n : Int) (hb : 2 ≤ b) (hb' : b ≤ 16) (h0 : 0 ≤ n) (h1 : n ≤ 1000000000000) : 0 ≤ sd b n ∧ sd b n ≤ n ∧ sd b n ≤ 600 ∧ (b ≤ n → sd b n < n) := by
  obtain ⟨a, c, d⟩ := dgs_sum b n hb h0
  have hl := dgs_len40 b n hb h0 h1
  have := (sum_bd (dgs b n) (b - 1) (dgs_all b n hb h0)).2
  refine ⟨a, c, ?_, d⟩
  have h2 : ((dgs b n).length : Int) * (b - 1) ≤ 40 * 15 := Int.mul_le_mul (by omega) (by omega) (by omega) (by omega)
  unfold sd
  omega

theorem sru_len (b n : Int) (hb : 2 ≤ b) (hb' : b ≤ 16) (h0 : 0 ≤ n) (h1 : n ≤ 1000000000000) : (sru b n).length ≤ 1000 := by
  obtain ⟨a, c, d, e⟩ := sd_bd b n hb hb' h0 h1
  by_cases h : b ≤ n
  · rw [sru, ru_step h a (e h), List.length_cons]
    have := ru_len b (sd b) _ (sd b n) (Nat.le_refl _)
    omega
  · rw [sru, ru_end h]; simp

theorem pru_len' (b : Int) (hb : 2 ≤ b) (hb' : b ≤ 16) : ∀ (k : Nat) (n : Int), 0 ≤ n → n ≤ 1000000000000 → n * (b - 1) ^ k < b * b ^ k → (pru b n).length ≤ k + 1 := by
  intro k
  induction k with
  | zero =>
    intro n h0 h1 h
    rw [pru, ru_end (by simp at h; omega)]; simp
  | succ k ih =>
    intro n h0 h1 h
    by_cases hn : b ≤ n
    · obtain ⟨p0, p1, p2⟩ := pd_bd b hb hb' _ n (Nat.le_refl _) h0 h1
      have p3 := (p2 hn).1
      rw [pru, ru_step hn p0 ((pd_lt b n hb hb' h0 h1).2.2 hn), List.length_cons]
      have : (pru b (pd b n)).length ≤ k + 1 := by
        refine ih _ p0 (by omega) ?_
        have c0 : 0 ≤ (b - 1) ^ k := Int.pow_nonneg (by omega)
        have c1 : pd b n * b * (b - 1) ^ k ≤ n * (b - 1) * (b - 1) ^ k := Int.mul_le_mul_of_nonneg_right p3 c0
        have c2 : n * (b - 1) * (b - 1) ^ k = n * (b - 1) ^ (k + 1) := by rw [Int.pow_succ]; grind
        have c3 : pd b n * b * (b - 1) ^ k = b * (pd b n * (b - 1) ^ k) := by grind
        have c4 : b * b ^ (k + 1) = b * (b * b ^ k) := by rw [Int.pow_succ]; grind
        exact Int.lt_of_mul_lt_mul_left (a := b) (by omega) (by omega)
      exact Nat.succ_le_succ this
    · rw [pru, ru_end hn]; simp

theorem pow_400 (b : Int) (hb : 2 ≤ b) (hb' : b ≤ 16) : 1000000000000 * (b - 1) ^ 400 < b * b ^ 400 := by
  have hc : b = 2 ∨ b = 3 ∨ b = 4 ∨ b = 5 ∨ b = 6 ∨ b = 7 ∨ b = 8 ∨ b = 9 ∨ b = 10 ∨ b = 11 ∨ b = 12 ∨ b = 13 ∨ b = 14 ∨ b = 15 ∨ b = 16 := by omega
  rcases hc with rfl | rfl | rfl | rfl | rfl | rfl | rfl | rfl | rfl | rfl | rfl | rfl | rfl | rfl | rfl <;> decide +kernel

theorem pru_len (b n : Int) (hb : 2 ≤ b) (hb' : b ≤ 16) (h0 : 0 ≤ n) (h1 : n ≤ 1000000000000) : (pru b n).length ≤ 1000 := by
  have := pru_len' b hb hb' 400 n h0 h1 (Int.lt_of_le_of_lt (Int.mul_le_mul_of_nonneg_right h1 (Int.pow_nonneg (by omega))) (pow_400 b hb hb'))
  omega

/-- The last one of a list. -/
def lastD (xs : List Int) : Int := xs.getD (xs.length - 1) 0

end Go.Proofs.Ytgiabadkbfbilaa

/- from XWB -/
namespace Go.Proofs.Ytgiabadkbfbilaa
open Go.RowKit
set_option linter.unusedVariables false
set_option linter.unusedSimpArgs false

theorem div_less {d n : Int} (hd : 2 ≤ d) (hn : 0 < n) : 0 ≤ n / d ∧ n / d < n := by
  refine ⟨Int.ediv_nonneg (by omega) (by omega), Int.ediv_lt_of_lt_mul (by omega) ?_⟩
  have : n * 2 ≤ n * d := Int.mul_le_mul_of_nonneg_left hd (by omega)
  omega

/-- What is left of a number if a divisor is taken away as often as it divides. -/
def dvo (d n : Int) : Int := if h : 2 ≤ d ∧ 0 < n ∧ n % d = 0 then dvo d (n / d) else n
termination_by n.toNat
decreasing_by
  have := div_less h.1 h.2.1
  omega

theorem dvo_step {d n : Int} (hd : 2 ≤ d) (hn : 0 < n) (h : n % d = 0) : dvo d n = dvo d (n / d) := by
  rw [dvo, dif_pos ⟨hd, hn, h⟩]
theorem dvo_end {d n : Int} (h : ¬ n % d = 0) : dvo d n = n := by
  rw [dvo, dif_neg (fun c => h c.2.2)]
theorem dvo_zero {d n : Int} (h : ¬ 0 < n) : dvo d n = n := by
  rw [dvo, dif_neg (fun c => h c.2.1)]
theorem div_pos0 {d n : Int} (hd : 2 ≤ d) (hn : 0 < n) (h : n % d = 0) : 0 < n / d := by
  have h6 := div_mod d n
  have h7 := (div_less hd hn).1
  by_cases hz : n / d = 0
  · rw [hz, h] at h6; omega
  · omega

/-- The divisors d, d + 1, .. taken away, k of them. -/
def smR : Nat → Int → Int → Int
  | 0, _, n => n
  | k + 1, d, n => smR k (d + 1) (dvo d n)
def smo (b n : Int) : Bool := decide (smR (b - 2).toNat 2 n = 1)

theorem smR_step {b d n : Int} (h : d < b) : smR (b - d).toNat d n = smR (b - (d + 1)).toNat (d + 1) (dvo d n) := by
  have : (b - d).toNat = (b - (d + 1)).toNat + 1 := by omega
  rw [this, smR]
theorem smR_end {b d n : Int} (h : ¬ d < b) : smR (b - d).toNat d n = n := by
  have : (b - d).toNat = 0 := by omega
  rw [this, smR]
theorem smR_zero : ∀ (k : Nat) (d : Int), smR k d 0 = 0
  | 0, d => rfl
  | k + 1, d => by rw [smR, dvo_zero (by omega), smR_zero k]
theorem smo_zero (b : Int) : smo b 0 = false := by
  rw [smo, smR_zero]; rfl

theorem sd_pos (b n : Int) (hb : 2 ≤ b) (h : 0 < n) : 0 < sd b n := by
  have key : ∀ (k : Nat) (n : Int), n.toNat ≤ k → 0 < n → 0 < (revD b n).sum := by
    intro k
    induction k with
    | zero => intro n hk hn; omega
    | succ k ih =>
      intro n hk hn
      by_cases hbn : b ≤ n
      · have h2 := div_lt b n hb hbn
        have h4 := div_pos b n hb hbn
        have h3 := mod_bd b n hb
        have := ih (n / b) (by omega) (by omega)
        rw [revD_big b n hb hbn, List.sum_cons]
        omega
      · rw [revD_small b n hbn]; simp; omega
  have := key _ n (Nat.le_refl _) h
  rw [sd, dgs, List.sum_reverse]
  exact this

/-- Divided by the digit sum; by the digit product. -/
def hsh (b n : Int) : Bool := decide (0 < n) && decide (n % sd b n = 0)
def zuk (b n : Int) : Bool := decide (0 < pd b n) && decide (n % pd b n = 0)
def hshF (b : Int) : Nat → Int → Option Int
  | 0, _ => none
  | k + 1, m => if hsh b m = true then some m else hshF b k (m + 1)
def nexH (b m : Int) : Option Int := hshF b (1000000000001 - m).toNat m

theorem nexH_yes {b m : Int} (h : m ≤ 1000000000000) (hh : hsh b m = true) : nexH b m = some m := by
  have : (1000000000001 - m).toNat = (1000000000001 - (m + 1)).toNat + 1 := by omega
  rw [nexH, this, hshF, if_pos hh]
theorem nexH_no {b m : Int} (h : m ≤ 1000000000000) (hh : hsh b m = false) : nexH b m = nexH b (m + 1) := by
  have : (1000000000001 - m).toNat = (1000000000001 - (m + 1)).toNat + 1 := by omega
  rw [nexH, this, hshF, if_neg (by rw [hh]; simp), nexH]
theorem nexH_end {b m : Int} (h : ¬ m ≤ 1000000000000) : nexH b m = none := by
  have : (1000000000001 - m).toNat = 0 := by omega
  rw [nexH, this, hshF]

/-- The root told by the remainder. -/
def rbr (b n : Int) : Int := if n = 0 then 0 else (n - 1) % (b - 1) + 1

/-- Numbers up to k that are the product of their digit sum and their digit product. -/
def spt (b n : Int) : Bool := decide (n = wrap64 (pd b n * sd b n))
def spn (b : Int) : Nat → List Int
  | 0 => []
  | k + 1 => if spt b ((k : Int) + 1) = true then spn b k ++ [(k : Int) + 1] else spn b k
theorem spn_len (b : Int) : ∀ k, (spn b k).length ≤ k
  | 0 => Nat.le_refl _
  | k + 1 => by
    have := spn_len b k
    rw [spn]; split <;> simp <;> omega

/-- Least numbers of a sum persistence. -/
def lspS (b s : Int) : Option Int := numF b (s % (b - 1) :: List.replicate (s / (b - 1)).toNat (b - 1)) 0
def lsp (b : Int) : Nat → Option Int
  | 0 => some 0
  | 1 => some b
  | k + 2 => (lsp b (k + 1)).bind (lspS b)

theorem lsp_ok : ∀ b : Int, 2 ≤ b → b ≤ 16 → ∃ s t, lsp b 1 = some b ∧ lsp b 2 = some s ∧ lsp b 3 = some t ∧ 0 < s ∧ s ≤ 100 ∧ b / (b - 1) ≤ 2 ∧ s / (b - 1) ≤ 3 := by
  intro b hb hb'
  have hc : b = 2 ∨ b = 3 ∨ b = 4 ∨ b = 5 ∨ b = 6 ∨ b = 7 ∨ b = 8 ∨ b = 9 ∨ b = 10 ∨ b = 11 ∨ b = 12 ∨ b = 13 ∨ b = 14 ∨ b = 15 ∨ b = 16 := by omega
  have key : ∀ b s t : Int, (decide (lsp b 1 = some b) && decide (lsp b 2 = some s) && decide (lsp b 3 = some t) && decide (0 < s) && decide (s ≤ 100) && decide (b / (b - 1) ≤ 2) && decide (s / (b - 1) ≤ 3)) = true →
      ∃ s t, lsp b 1 = some b ∧ lsp b 2 = some s ∧ lsp b 3 = some t ∧ 0 < s ∧ s ≤ 100 ∧ b / (b - 1) ≤ 2 ∧ s / (b - 1) ≤ 3 := by
    intro b s t h
    simp only [Bool.and_eq_true, decide_eq_true_eq] at h
    obtain ⟨⟨⟨⟨⟨⟨h1, h2⟩, h3⟩, h4⟩, h5⟩, h6⟩, h7⟩ := h
    exact ⟨s, t, h1, h2, h3, h4, h5, h6, h7⟩
  rcases hc with rfl | rfl | rfl | rfl | rfl | rfl | rfl | rfl | rfl | rfl | rfl | rfl | rfl | rfl | rfl
  · exact key 2 3 7 (by decide +kernel)
  · exact key 3 5 17 (by decide +kernel)
  · exact key 4 7 31 (by decide +kernel)
  · exact key 5 9 49 (by decide +kernel)
  · exact key 6 11 71 (by decide +kernel)
  · exact key 7 13 97 (by decide +kernel)
  · exact key 8 15 127 (by decide +kernel)
  · exact key 9 17 161 (by decide +kernel)
  · exact key 10 19 199 (by decide +kernel)
  · exact key 11 21 241 (by decide +kernel)
  · exact key 12 23 287 (by decide +kernel)
  · exact key 13 25 337 (by decide +kernel)
  · exact key 14 27 391 (by decide +kernel)
  · exact key 15 29 449 (by decide +kernel)
  · exact key 16 31 511 (by decide +kernel)

theorem numF_zero (b : Int) (xs : List Int) : numF b (0 :: xs) 0 = numF b xs 0 := by
  rw [numF, if_neg (by simp)]; simp

end Go.Proofs.Ytgiabadkbfbilaa
