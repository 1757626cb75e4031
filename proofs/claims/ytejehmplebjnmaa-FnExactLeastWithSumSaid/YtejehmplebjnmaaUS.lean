/-
  The least number with a power sum: plain mathematics.
-/
import Derived.Test.YtejehmplebjnmaaUB
import Derived.Test.YtejehmplebjnmaaR2
import Derived.Test.YtejehmplebjnmaaPW
namespace Go.Proofs.Ytejehmplebjnmaa
set_option linter.unusedVariables false
set_option linter.unusedSimpArgs false

/-- The least number of digits, when the digits 1 .. n have been tried in front. -/
def mn (F : Nat → Nat) (p s : Nat) : Nat → Nat
  | 0 => 1000000
  | n + 1 => min (mn F p s n) (1 + F (s - (n + 1) ^ p))
/-- The digit in front with it: the first one. -/
def fr (F : Nat → Nat) (p s : Nat) : Nat → Nat
  | 0 => 0
  | n + 1 => if fr F p s n = 0 ∨ F (s - (n + 1) ^ p) + 1 < mn F p s n then n + 1 else fr F p s n
/-- How many digits may be in front. -/
def dm (b p s : Nat) : Nat := fst (fun n => !(decide (n + 1 < b) && decide ((n + 1) ^ p ≤ s))) b

theorem dm_spec {b p s : Nat} (hb : 2 ≤ b) : dm b p s < b ∧ (∀ n, n < dm b p s → n + 1 < b ∧ (n + 1) ^ p ≤ s) ∧ ¬ (dm b p s + 1 < b ∧ (dm b p s + 1) ^ p ≤ s) := by
  obtain ⟨h1, h2, h3⟩ := fst_spec b (fun n => !(decide (n + 1 < b) && decide ((n + 1) ^ p ≤ s))) ⟨b - 1, by omega, by simp; omega⟩
  have e : fst (fun n => !(decide (n + 1 < b) && decide ((n + 1) ^ p ≤ s))) b = dm b p s := rfl
  rw [e] at h1 h2 h3
  have h4 : ∀ n, n < dm b p s → n + 1 < b ∧ (n + 1) ^ p ≤ s := fun n hn => by
    have := h3 n hn
    simpa using this
  refine ⟨?_, h4, ?_⟩
  · by_cases h : dm b p s = b
    · have := (h4 (b - 1) (by omega)).1
      omega
    · omega
  · simp at h2
    rintro ⟨h5, h6⟩
    rcases h2 with h2 | h2 <;> omega

theorem dm_pos {b p s : Nat} (hb : 2 ≤ b) (hs : 1 ≤ s) : 1 ≤ dm b p s := by
  have := (dm_spec (p := p) (s := s) hb).2.2
  by_cases h : dm b p s = 0
  · rw [h] at this
    exact absurd ⟨by omega, by rw [Nat.zero_add, Nat.one_pow]; exact hs⟩ this
  · omega

theorem mn_congr {F G : Nat → Nat} {p s : Nat} (h : ∀ j, j ≤ s → F j = G j) : ∀ n, mn F p (s + 1) n = mn G p (s + 1) n
  | 0 => rfl
  | n + 1 => by
    have h1 : 1 ≤ (n + 1) ^ p := Nat.pow_pos (by omega)
    show min _ _ = min _ _
    rw [mn_congr h n, h (s + 1 - (n + 1) ^ p) (by omega)]

/-- The least numbers of digits, for the sums up to s. -/
def fwL (b p : Nat) : Nat → List Nat
  | 0 => [0]
  | s + 1 => fwL b p s ++ [mn (fun j => (fwL b p s).getD j 0) p (s + 1) (dm b p (s + 1))]
def fw (b p s : Nat) : Nat := (fwL b p s).getD s 0
theorem fwL_len (b p : Nat) : ∀ s, (fwL b p s).length = s + 1
  | 0 => rfl
  | s + 1 => by rw [fwL, List.length_append, fwL_len b p s]; rfl
theorem fwL_get (b p : Nat) : ∀ s j, j ≤ s → (fwL b p s).getD j 0 = fw b p j
  | 0, j, h => by obtain rfl : j = 0 := by omega
                  rfl
  | s + 1, j, h => by
    by_cases hj : j = s + 1
    · subst hj; rfl
    · rw [← fwL_get b p s j (by omega), fwL, List.getD_eq_getElem?_getD, List.getElem?_append_left (by rw [fwL_len]; omega), ← List.getD_eq_getElem?_getD]
theorem fw_zero (b p : Nat) : fw b p 0 = 0 := rfl
theorem fw_succ (b p s : Nat) : fw b p (s + 1) = mn (fw b p) p (s + 1) (dm b p (s + 1)) := by
  have h1 : fw b p (s + 1) = mn (fun j => (fwL b p s).getD j 0) p (s + 1) (dm b p (s + 1)) := by
    unfold fw
    rw [fwL, List.getD_eq_getElem?_getD, List.getElem?_append_right (by rw [fwL_len]; omega), fwL_len, Nat.sub_self]
    rfl
  rw [h1]
  exact mn_congr (fun j hj => fwL_get b p s j hj) _
theorem mn_le {F : Nat → Nat} {p s : Nat} : ∀ {n d : Nat}, 1 ≤ d → d ≤ n → mn F p s n ≤ 1 + F (s - d ^ p)
  | 0, d, h1, h2 => by omega
  | n + 1, d, h1, h2 => by
    show min _ _ ≤ _
    by_cases hd : d = n + 1
    · subst hd; omega
    · have := mn_le (F := F) (p := p) (s := s) (n := n) h1 (by omega)
      omega
theorem mn_pos {F : Nat → Nat} {p s : Nat} : ∀ n, 1 ≤ mn F p s n
  | 0 => by show 1 ≤ 1000000; omega
  | n + 1 => by show 1 ≤ min _ _; have := mn_pos (F := F) (p := p) (s := s) n; omega
theorem fw_le {b : Nat} (p : Nat) (hb : 2 ≤ b) : ∀ s, fw b p s ≤ s
  | 0 => by rw [fw_zero]; omega
  | s + 1 => by
    have h1 := mn_le (F := fw b p) (p := p) (s := s + 1) (n := dm b p (s + 1)) (d := 1) (by omega) (dm_pos hb (by omega))
    rw [Nat.one_pow, Nat.add_sub_cancel] at h1
    have := fw_le p hb s
    rw [fw_succ]
    omega
theorem fw_pos {b p s : Nat} (hs : 1 ≤ s) : 1 ≤ fw b p s := by
  obtain ⟨t, rfl⟩ : ∃ t, s = t + 1 := ⟨s - 1, by omega⟩
  rw [fw_succ]
  exact mn_pos _

/-- The first digit in front with the least number of digits. -/
theorem fr_spec {F : Nat → Nat} {p s : Nat} (hF : ∀ j, F j ≤ 900000) : ∀ n, 1 ≤ n → 1 ≤ fr F p s n ∧ fr F p s n ≤ n ∧ F (s - fr F p s n ^ p) + 1 = mn F p s n ∧ ∀ d, 1 ≤ d → d < fr F p s n → F (s - d ^ p) + 1 ≠ mn F p s n
  | 0, h => by omega
  | n + 1, _ => by
    have hFn := hF (s - (n + 1) ^ p)
    by_cases h0 : n = 0
    · subst h0
      have e1 : fr F p s (0 + 1) = 1 := rfl
      have e2 : mn F p s (0 + 1) = min 1000000 (1 + F (s - (0 + 1) ^ p)) := rfl
      rw [e1, e2]
      rw [Nat.zero_add] at hFn ⊢
      refine ⟨by omega, by omega, by omega, fun d h1 h2 => by omega⟩
    · obtain ⟨h1, h2, h3, h4⟩ := fr_spec (p := p) (s := s) hF n (by omega)
      have e2 : mn F p s (n + 1) = min (mn F p s n) (1 + F (s - (n + 1) ^ p)) := rfl
      by_cases hlt : F (s - (n + 1) ^ p) + 1 < mn F p s n
      · have e1 : fr F p s (n + 1) = n + 1 := if_pos (.inr hlt)
        rw [e1, e2]
        refine ⟨by omega, by omega, by omega, fun d h5 h6 => ?_⟩
        have := mn_le (F := F) (p := p) (s := s) (n := n) h5 (by omega)
        omega
      · have e1 : fr F p s (n + 1) = fr F p s n := if_neg (by rintro (h | h); omega; exact hlt h)
        rw [e1, e2]
        refine ⟨h1, by omega, by omega, fun d h5 h6 => ?_⟩
        have := h4 d h5 h6
        omega

/-- The digit in front of the least number with a sum. -/
def fd (b p s : Nat) : Nat := fr (fun j => if j ≤ 2000 then fw b p j else 0) p s (dm b p s)

def fwB (b p j : Nat) : Nat := if j ≤ 2000 then fw b p j else 0
theorem fwB_le {b : Nat} (p : Nat) (hb : 2 ≤ b) (j : Nat) : fwB b p j ≤ 900000 := by
  unfold fwB
  split
  · have := fw_le p hb j; omega
  · omega
theorem fwB_eq {b p j : Nat} (h : j ≤ 2000) : fwB b p j = fw b p j := if_pos h

theorem fd_spec {b p s : Nat} (hb : 2 ≤ b) (hs : 1 ≤ s) (hs2 : s ≤ 2000) : 1 ≤ fd b p s ∧ fd b p s < b ∧ fd b p s ^ p ≤ s ∧ fw b p (s - fd b p s ^ p) + 1 = fw b p s ∧ ∀ d, 1 ≤ d → d < fd b p s → fw b p (s - d ^ p) + 1 ≠ fw b p s := by
  obtain ⟨d1, d2, d3⟩ := dm_spec (p := p) (s := s) hb
  obtain ⟨h1, h2, h3, h4⟩ := fr_spec (F := fwB b p) (p := p) (s := s) (fwB_le p hb) (dm b p s) (dm_pos hb hs)
  have e : fr (fwB b p) p s (dm b p s) = fd b p s := rfl
  rw [e] at h1 h2 h3 h4
  have hm : mn (fwB b p) p s (dm b p s) = fw b p s := by
    obtain ⟨t, rfl⟩ : ∃ t, s = t + 1 := ⟨s - 1, by omega⟩
    rw [fw_succ]
    exact mn_congr (fun j hj => fwB_eq (by omega)) _
  rw [hm] at h3 h4
  obtain ⟨q1, q2⟩ := d2 (fd b p s - 1) (by omega)
  rw [show fd b p s - 1 + 1 = fd b p s from by omega] at q1 q2
  rw [fwB_eq (by omega)] at h3
  refine ⟨h1, q1, q2, h3, fun d a1 a2 => ?_⟩
  have := h4 d a1 a2
  rwa [fwB_eq (by omega)] at this

/-- The digits of the least number with a sum. -/
def dgL (b p : Nat) : Nat → Nat → List Int
  | 0, _ => []
  | n + 1, s => if s = 0 then [] else ((fd b p s : Nat) : Int) :: dgL b p n (s - fd b p s ^ p)
theorem dgL_zero (b p : Nat) : ∀ n, dgL b p n 0 = []
  | 0 => rfl
  | n + 1 => rfl
theorem dgL_step {b p n s : Nat} (hs : 1 ≤ s) : dgL b p (n + 1) s = ((fd b p s : Nat) : Int) :: dgL b p n (s - fd b p s ^ p) := by
  show (if s = 0 then [] else _) = _
  rw [if_neg (by omega)]
theorem dgL_len {b p : Nat} (hb : 2 ≤ b) : ∀ n s, s ≤ 2000 → fw b p s ≤ n → (dgL b p n s).length = fw b p s
  | 0, s, h1, h2 => by
    have : (dgL b p 0 s).length = 0 := rfl
    omega
  | n + 1, s, h1, h2 => by
    by_cases h0 : s = 0
    · subst h0; rw [dgL_zero, fw_zero]; rfl
    · obtain ⟨f1, f2, f3, f4, f5⟩ := fd_spec (p := p) hb (show 1 ≤ s by omega) h1
      rw [dgL_step (by omega), List.length_cons, dgL_len hb n _ (by omega) (by omega)]
      exact f4
theorem dgL_pos {b p : Nat} (hb : 2 ≤ b) : ∀ n s, s ≤ 2000 → ∀ x ∈ dgL b p n s, 1 ≤ x ∧ x ≤ (b : Int) - 1
  | 0, s, h1, x, hx => by simp [dgL] at hx
  | n + 1, s, h1, x, hx => by
    by_cases h0 : s = 0
    · subst h0; rw [dgL_zero] at hx; simp at hx
    · obtain ⟨f1, f2, f3, f4, f5⟩ := fd_spec (p := p) hb (show 1 ≤ s by omega) h1
      rw [dgL_step (by omega)] at hx
      rcases List.mem_cons.1 hx with rfl | hx
      · omega
      · exact dgL_pos hb n _ (by omega) x hx

/-- The answer. -/
def RLs (b p s : Nat) : Option Int := numF (b : Int) (dgL b p 2000 s) 0

theorem numF_bigL (b : Int) (hb : 2 ≤ b) : ∀ (xs : List Int) (n : Int), (∀ x ∈ xs, 0 ≤ x) → 1 ≤ n → n ≤ 1000000000000 → 1000000000000 < n * 2 ^ xs.length → numF b xs n = none := by
  intro xs
  induction xs with
  | nil =>
    intro n _ hn hk hbig
    simp at hbig
    omega
  | cons d ds ih =>
    intro n h hn hk hbig
    rw [numF]
    have hd := h d (by simp)
    have h2 : 2 * n ≤ n * b := by rw [Int.mul_comm 2 n]; exact Int.mul_le_mul_of_nonneg_left hb (by omega)
    split
    · rfl
    · refine ih (n * b + d) (fun x hx => h x (by simp [hx])) (by omega) (by omega) ?_
      rw [List.length_cons, Int.pow_succ] at hbig
      have h3 : (2 * n) * 2 ^ ds.length ≤ (n * b + d) * 2 ^ ds.length := Int.mul_le_mul_of_nonneg_right (by omega) (Int.pow_nonneg (by decide))
      have h4 : n * (2 ^ ds.length * 2) = (2 * n) * 2 ^ ds.length := by
        rw [Int.mul_comm (2 ^ ds.length) 2, ← Int.mul_assoc, Int.mul_comm n 2]
      omega

theorem two40L (k : Nat) (h : 40 ≤ k) : (1099511627776 : Int) ≤ 2 ^ k := by
  obtain ⟨m, rfl⟩ : ∃ m, k = 40 + m := ⟨k - 40, by omega⟩
  rw [Int.pow_add]
  have h1 : (2 : Int) ^ 40 = 1099511627776 := by decide
  have h2 : (1 : Int) ≤ 2 ^ m := Int.pow_pos (by decide)
  rw [h1]
  omega

/-- More than forty digits: a number beyond the limit. -/
theorem RLs_big {b p s : Nat} (hb : 2 ≤ b) (hb' : b ≤ 16) (hs : s ≤ 2000) (h : 40 < fw b p s) : RLs b p s = none := by
  have hl := dgL_len (p := p) hb 2000 s hs (by have := fw_le p hb s; omega)
  have hp := dgL_pos (p := p) hb 2000 s hs
  unfold RLs
  cases hd : dgL b p 2000 s with
  | nil => rw [hd] at hl; simp at hl; omega
  | cons d t =>
    rw [hd] at hl hp
    have h1 := hp d (by simp)
    rw [numF]
    have e : (0 : Int) * (b : Int) + d = d := by omega
    rw [e]
    split
    · rfl
    · refine numF_bigL (b : Int) (by omega) t d (fun x hx => by have := hp x (by simp [hx]); omega) h1.1 (by omega) ?_
      have h2 := two40L t.length (by simp at hl; omega)
      have h3 : 1 * 2 ^ t.length ≤ d * 2 ^ t.length := Int.mul_le_mul_of_nonneg_right h1.1 (by omega)
      omega

end Go.Proofs.Ytejehmplebjnmaa
