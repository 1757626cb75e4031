/-
  Joint text of UO US UT UU (written by wip/tools/merge.py).
-/
import Derived.Test.YtnniiobiedfmoaaUN
import Derived.Test.YtnniiobiedfmoaaUB
import Derived.Test.YtnniiobiedfmoaaR2
import Derived.Test.YtnniiobiedfmoaaPW
import Derived.Deep.RegionLaw
import Derived.OwnWalk
import Derived.Deep.OwnRows
import Derived.Test.YtnniiobiedfmoaaUE
/- from XUO -/
namespace Go.Proofs.Ytnniiobiedfmoaa
open Go.RowKit
set_option linter.unusedVariables false
set_option linter.unusedSimpArgs false
set_option maxRecDepth 100000

theorem two_rows {w : World} {B g h n m c e : Nat} {xs ys : List Int} (hx : Rd w B (.slice (some ⟨g, 0, none⟩) n c) xs) (hy : Rd w B (.slice (some ⟨h, 0, none⟩) m e) ys) (hne : g ≠ h) (j : Nat) (v : Int) :
    Rd (w.setCell ⟨h, j, none⟩ (.int .i64 v)) B (.slice (some ⟨g, 0, none⟩) n c) xs ∧ Rd (w.setCell ⟨h, j, none⟩ (.int .i64 v)) B (.slice (some ⟨h, 0, none⟩) m e) (ys.set j v) := by
  have h1 := hy.set j v
  refine ⟨hx.grown h1.2 (.inr ?_), h1.1⟩
  intro e
  simp [Value.ownBlock] at e
  exact hne e

end Go.Proofs.Ytnniiobiedfmoaa

/- from XUS -/
namespace Go.Proofs.Ytnniiobiedfmoaa
set_option linter.unusedVariables false
set_option linter.unusedSimpArgs false

/-- The least number of digits, when the digits 1 .. n have been tried in front. -/
def mn (F : Nat → Nat) (p s : Nat) : Nat → Nat
  | 0 => 1000000
  | n + 1 => min (mn F p s n) (1 + F (s - (n + 1) ^ p))
/-- The digit in front with it: the first one. -/
def fr (F : Nat → Nat) (p s : Nat) : Nat → Nat
  | 0 => 0
  | n + 1 => if fr F p s n = 0 ∨ F (s - (n + 1) ^ p) + 1 < mn F p s n then n + 1 else fr F p s n
/-- How many digits may be in front. -/
def dm (b p s : Nat) : Nat := fst (fun n => !(decide (n + 1 < b) && decide ((n + 1) ^ p ≤ s))) b

theorem dm_spec {b p s : Nat} (hb : 2 ≤ b) : dm b p s < b ∧ (∀ n, n < dm b p s → n + 1 < b ∧ (n + 1) ^ p ≤ s) ∧ ¬ (dm b p s + 1 < b ∧ (dm b p s + 1) ^ p ≤ s) := by
  obtain ⟨h1, h2, h3⟩ := fst_spec b (fun n => !(decide (n + 1 < b) && decide ((n + 1) ^ p ≤ s))) ⟨b - 1, by omega, by simp; omega⟩
  have e : fst (fun n => !(decide (n + 1 < b) && decide ((n + 1) ^ p ≤ s))) b = dm b p s := rfl
  rw [e] at h1 h2 h3
  have h4 : ∀ n, n < dm b p s → n + 1 < b ∧ (n + 1) ^ p ≤ s := fun n hn => by
    have := h3 n hn
    simpa using this
  refine ⟨?_, h4, ?_⟩
  · by_cases h : dm b p s = b
    · have := (h4 (b - 1) (by omega)).1
      omega
    · omega
  · simp at h2
    rintro ⟨h5, h6⟩
    rcases h2 with h2 | h2 <;> omega

theorem dm_pos {b p s : Nat} (hb : 2 ≤ b) (hs : 1 ≤ s) : 1 ≤ dm b p s := by
  have := (dm_spec (p := p) (s := s) hb).2.2
  by_cases h : dm b p s = 0
  · rw [h] at this
    exact absurd ⟨by omega, by rw [Nat.zero_add, Nat.one_pow]; exact hs⟩ this
  · omega

theorem mn_congr {F G : Nat → Nat} {p s : Nat} (h : ∀ j, j ≤ s → F j = G j) : ∀ n, mn F p (s + 1) n = mn G p (s + 1) n
  | 0 => rfl
  | n + 1 => by
    have h1 : 1 ≤ (n + 1) ^ p := Nat.pow_pos (by omega)
    show min _ _ = min _ _
    rw [mn_congr h n, h (s + 1 - (n + 1) ^ p) (by omega)]

/-- The least numbers of digits, for the sums up to s. -/
def fwL (b p : Nat) : Nat → List Nat
  | 0 => [0]
  | s + 1 => fwL b p s ++ [mn (fun j => (fwL b p s).getD j 0) p (s + 1) (dm b p (s + 1))]
def fw (b p s : Nat) : Nat := (fwL b p s).getD s 0
theorem fwL_len (b p : Nat) : ∀ s, (fwL b p s).length = s + 1
  | 0 => rfl
  | s + 1 => by rw [fwL, List.length_append, fwL_len b p s]; rfl
theorem fwL_get (b p : Nat) : ∀ s j, j ≤ s → (fwL b p s).getD j 0 = fw b p j
  | 0, j, h => by obtain rfl : j = 0 := by omega
                  rfl
  | s + 1, j, h => by
    by_cases hj : j = s + 1
    · subst hj; rfl
    · rw [← fwL_get b p s j (by omega), fwL, List.getD_eq_getElem?_getD, List.getElem?_append_left (by rw [fwL_len]; omega), ← List.getD_eq_getElem?_getD]
theorem fw_zero (b p : Nat) : fw b p 0 = 0 := rfl
theorem fw_succ (b p s : Nat) : fw b p (s + 1) = mn (fw b p) p (s + 1) (dm b p (s + 1)) := by
  have h1 : fw b p (s + 1) = mn (fun j => (fwL b p s).getD j 0) p (s + 1) (dm b p (s + 1)) := by
    unfold fw
    rw [fwL, List.getD_eq_getElem?_getD, List.getElem?_append_right (by rw [fwL_len]; omega), fwL_len, Nat.sub_self]
    rfl
  rw [h1]
  exact mn_congr (fun j hj => fwL_get b p s j hj) _
theorem mn_le {F : Nat → Nat} {p s : Nat} : ∀ {n d : Nat}, 1 ≤ d → d ≤ n → mn F p s n ≤ 1 + F (s - d ^ p)
  | 0, d, h1, h2 => by omega
  | n + 1, d, h1, h2 => by
    show min _ _ ≤ _
    by_cases hd : d = n + 1
    · subst hd; omega
    · have := mn_le (F := F) (p := p) (s := s) (n := n) h1 (by omega)
      omega
theorem mn_pos {F : Nat → Nat} {p s : Nat} : ∀ n, 1 ≤ mn F p s n
  | 0 => by show 1 ≤ 1000000; omega
  | n + 1 => by show 1 ≤ min _ _; have := mn_pos (F := F) (p := p) (s := s) n; omega
theorem fw_le {b : Nat} (p : Nat) (hb : 2 ≤ b) : ∀ s, fw b p s ≤ s
  | 0 => by rw [fw_zero]; omega
  | s + 1 => by
    have h1 := mn_le (F := fw b p) (p := p) (s := s + 1) (n := dm b p (s + 1)) (d := 1) (by omega) (dm_pos hb (by omega))
    rw [Nat.one_pow, Nat.add_sub_cancel] at h1
    have := fw_le p hb s
    rw [fw_succ]
    omega
theorem fw_pos {b p s : Nat} (hs : 1 ≤ s) : 1 ≤ fw b p s := by
  obtain ⟨t, rfl⟩ : ∃ t, s = t + 1 := ⟨s - 1, by omega⟩
  rw [fw_succ]
  exact mn_pos _

/-- The first digit in front with the least number of digits. -/
theorem fr_spec {F : Nat → Nat} {p s : Nat} (hF : ∀ j, F j ≤ 900000) : ∀ n, 1 ≤ n → 1 ≤ fr F p s n ∧ fr F p s n ≤ n ∧ F (s - fr F p s n ^ p) + 1 = mn F p s n ∧ ∀ d, 1 ≤ d → d < fr F p s n → F (s - d ^ p) + 1 ≠ mn F p s n
  | 0, h => by omega
  | n + 1, _ => by
    have hFn := hF (s - (n + 1) ^ p)
    by_cases h0 : n = 0
    · subst h0
      have e1 : fr F p s (0 + 1) = 1 := rfl
      have e2 : mn F p s (0 + 1) = min 1000000 (1 + F (s - (0 + 1) ^ p)) := rfl
      rw [e1, e2]
      rw [Nat.zero_add] at hFn ⊢
      refine ⟨by omega, by omega, by omega, fun d h1 h2 => by omega⟩
    · obtain ⟨h1, h2, h3, h4⟩ := fr_spec (p := p) (s := s) hF n (by omega)
      have e2 : mn F p s (n + 1) = min (mn F p s n) (1 + F (s - (n + 1) ^ p)) := rfl
      by_cases hlt : F (s - (n + 1) ^ p) + 1 < mn F p s n
      · have e1 : fr F p s (n + 1) = n + 1 := if_pos (.inr hlt)
        rw [e1, e2]
        refine ⟨by omega, by omega, by omega, fun d h5 h6 => ?_⟩
        have := mn_le (F := F) (p := p) (s := s) (n := n) h5 (by omega)
        omega
      · have e1 : fr F p s (n + 1) = fr F p s n := if_neg (by rintro (h | h); omega; exact hlt h)
        rw [e1, e2]
        refine ⟨h1, by omega, by omega, fun d h5 h6 => ?_⟩
        have := h4 d h5 h6
        omega

/-- The digit in front of the least number with a sum. -/
def fd (b p s : Nat) : Nat := fr (fun j => if j ≤ 2000 then fw b p j else 0) p s (dm b p s)

def fwB (b p j : Nat) : Nat := if j ≤ 2000 then fw b p j else 0
theorem fwB_le {b : Nat} (p : Nat) (hb : 2 ≤ b) (j : Nat) : fwB b p j ≤ 900000 := by
  unfold fwB
  split
  · have := fw_le p hb j; omega
  · omega
theorem fwB_eq {b p j : Nat} (h : j ≤ 2000) : fwB b p j = fw b p j := if_pos h

theorem fd_spec {b p s : Nat} (hb : 2 ≤ b) (hs : 1 ≤ s) (hs2 : s ≤ 2000) : 1 ≤ fd b p s ∧ fd b p s < b ∧ fd b p s ^ p ≤ s ∧ fw b p (s - fd b p s ^ p) + 1 = fw b p s ∧ ∀ d, 1 ≤ d → d < fd b p s → fw b p (s - d ^ p) + 1 ≠ fw b p s := by
  obtain ⟨d1, d2, d3⟩ := dm_spec (p := p) (s := s) hb
  obtain ⟨h1, h2, h3, h4⟩ := fr_spec (F := fwB b p) (p := p) (s := s) (fwB_le p hb) (dm b p s) (dm_pos hb hs)
  have e : fr (fwB b p) p s (dm b p s) = fd b p s := rfl
  rw [e] at h1 h2 h3 h4
  have hm : mn (fwB b p) p s (dm b p s) = fw b p s := by
    obtain ⟨t, rfl⟩ : ∃ t, s = t + 1 := ⟨s - 1, by omega⟩
    rw [fw_succ]
    exact mn_congr (fun j hj => fwB_eq (by omega)) _
  rw [hm] at h3 h4
  obtain ⟨q1, q2⟩ := d2 (fd b p s - 1) (by omega)
  rw [show fd b p s - 1 + 1 = fd b p s from by omega] at q1 q2
  rw [fwB_eq (by omega)] at h3
  refine ⟨h1, q1, q2, h3, fun d a1 a2 => ?_⟩
  have := h4 d a1 a2
  rwa [fwB_eq (by omega)] at this

/-- The digits of the least number with a sum. -/
def dgL (b p : Nat) : Nat → Nat → List Int
  | 0, _ => []
  | n + 1, s => if s = 0 then [] else ((fd b p s : Nat) : Int) :: dgL b p n (s - fd b p s ^ p)
theorem dgL_zero (b p : Nat) : ∀ n, dgL b p n 0 = []
  | 0 => rfl
  | n + 1 => rfl
theorem dgL_step {b p n s : Nat} (hs : 1 ≤ s) : dgL b p (n + 1) s = ((fd b p s : Nat) : Int) :: dgL b p n (s - fd b p s ^ p) := by
  show (if s = 0 then [] else _) = _
  rw [if_neg (by omega)]
theorem dgL_len {b p : Nat} (hb : 2 ≤ b) : ∀ n s, s ≤ 2000 → fw b p s ≤ n → (dgL b p n s).length = fw b p s
  | 0, s, h1, h2 => by
    have : (dgL b p 0 s).length = 0 := rfl
    omega
  | n + 1, s, h1, h2 => by
    by_cases h0 : s = 0
    · subst h0; rw [dgL_zero, fw_zero]; rfl
    · obtain ⟨f1, f2, f3, f4, f5⟩ := fd_spec (p := p) hb (show 1 ≤ s by omega) h1
      rw [dgL_step (by omega), List.length_cons, dgL_len hb n _ (by omega) (by omega)]
      exact f4
theorem dgL_pos {b p : Nat} (hb : 2 ≤ b) : ∀ n s, s ≤ 2000 → ∀ x ∈ dgL b p n s, 1 ≤ x ∧ x ≤ (b : Int) - 1
  | 0, s, h1, x, hx => by simp [dgL] at hx
  | n + 1, s, h1, x, hx => by
    by_cases h0 : s = 0
    · subst h0; rw [dgL_zero] at hx; simp at hx
    · obtain ⟨f1, f2, f3, f4, f5⟩ := fd_spec (p := p) hb (show 1 ≤ s by omega) h1
      rw [dgL_step (by omega)] at hx
      rcases List.mem_cons.1 hx with rfl | hx
      · omega
      · exact dgL_pos hb n _ (by omega) x hx

/-- The answer. -/
def RLs (b p s : Nat) : Option Int := numF (b : Int) (dgL b p 2000 s) 0

theorem numF_bigL (b : Int) (hb : 2 ≤ b) : ∀ (xs : List Int) (n : Int), (∀ x ∈ xs, 0 ≤ x) → 1 ≤ n → n ≤ 1000000000000 → 1000000000000 < n * 2 ^ xs.length → numF b xs n = none := by
  intro xs
  induction xs with
  | nil =>
    intro n _ hn hk hbig
    simp at hbig
    omega
  | cons d ds ih =>
    intro n h hn hk hbig
    rw [numF]
    have hd := h d (by simp)
    have h2 : 2 * n ≤ n * b := by rw [Int.mul_comm 2 n]; exact Int.mul_le_mul_of_nonneg_left hb (by omega)
    split
    · rfl
    · refine ih (n * b + d) (fun x hx => h x (by simp [hx])) (by omega) (by omega) ?_
      rw [List.length_cons, Int.pow_succ] at hbig
      have h3 : (2 * n) * 2 ^ ds.length ≤ (n * b + d) * 2 ^ ds.length := Int.mul_le_mul_of_nonneg_right (by omega) (Int.pow_nonneg (by decide))
      have h4 : n * (2 ^ ds.length * 2) = (2 * n) * 2 ^ ds.length := by
        rw [Int.mul_comm (2 ^ ds.length) 2, ← Int.mul_assoc, Int.mul_comm n 2]
      omega

theorem two40L (k : Nat) (h : 40 ≤ k) : (1099511627776 : Int) ≤ 2 ^ k := by
  obtain ⟨m, rfl⟩ : ∃ m, k = 40 + m := ⟨k - 40, by omega⟩
  rw [Int.pow_add]
  have h1 : (2 : Int) ^ 40 = 1099511627776 := by decide
  have h2 : (1 : Int) ≤ 2 ^ m := Int.pow_pos (by decide)
  rw [h1]
  omega

/-- More than forty digits: a number beyond the limit. -/
theorem RLs_big {b p s : Nat} (hb : 2 ≤ b) (hb' : b ≤ 16) (hs : s ≤ 2000) (h : 40 < fw b p s) : RLs b p s = none := by
  have hl := dgL_len (p := p) hb 2000 s hs (by have := fw_le p hb s; omega)
  have hp := dgL_pos (p := p) hb 2000 s hs
  unfold RLs
  cases hd : dgL b p 2000 s with
  | nil => rw [hd] at hl; simp at hl; omega
  | cons d t =>
    rw [hd] at hl hp
    have h1 := hp d (by simp)
    rw [numF]
    have e : (0 : Int) * (b : Int) + d = d := by omega
    rw [e]
    split
    · rfl
    · refine numF_bigL (b : Int) (by omega) t d (fun x hx => by have := hp x (by simp [hx]); omega) h1.1 (by omega) ?_
      have h2 := two40L t.length (by simp at hl; omega)
      have h3 : 1 * 2 ^ t.length ≤ d * 2 ^ t.length := Int.mul_le_mul_of_nonneg_right h1.1 (by omega)
      omega

end Go.Proofs.Ytnniiobiedfmoaa

/- from XUT -/
namespace Go.Proofs.Ytnniiobiedfmoaa
open Go.RowKit
set_option linter.unusedVariables false
set_option linter.unusedSimpArgs false
set_option maxRecDepth 100000

theorem rd_made (w : World) (K : Nat) (hK : K ≤ 1000000) : Rd (w.alloc (.cells (madeCells #[.int .i64 0] K) 3)) w.heap.size (.slice (some ⟨w.heap.size, 0, none⟩) K K) (List.replicate K 0) := by
  refine ⟨by simp, .inr ⟨w.heap.size, K, _, by rw [List.length_replicate], Nat.le_refl _, heap_alloc_new w _, by rw [List.length_replicate]; exact Nat.le_refl _, by unfold maxLen; omega, by simp [madeCells], ?_⟩⟩
  rw [toList_madeCells_one, List.length_replicate, Nat.mul_one, List.take_of_length_le (by simp), List.map_replicate]

theorem vint {a b : Int} (h : a = b) : Value.int .i64 a = Value.int .i64 b := by rw [h]

/-- What is known up to the sum s, and at s what has been found so far. -/
def upTo (F : Nat → Nat) (s v j : Nat) : Nat := if j < s then F j else if j = s then v else 0
theorem upTo_lt {F : Nat → Nat} {s v j : Nat} (h : j < s) : upTo F s v j = F j := if_pos h
theorem upTo_at (F : Nat → Nat) (s v : Nat) : upTo F s v s = v := by unfold upTo; rw [if_neg (by omega), if_pos rfl]
theorem upTo_next {F : Nat → Nat} {s v : Nat} (h : v = F s) (j : Nat) : upTo F s v j = upTo F (s + 1) 0 j := by
  unfold upTo
  by_cases h1 : j < s
  · rw [if_pos h1, if_pos (by omega)]
  · rw [if_neg h1]
    by_cases h2 : j = s
    · rw [if_pos h2, if_pos (by omega), h, h2]
    · rw [if_neg h2, if_neg (by omega)]
      split <;> rfl
theorem upTo_first {F : Nat → Nat} (h : F 0 = 0) (j : Nat) : 0 = upTo F 1 0 j := by
  unfold upTo
  by_cases h1 : j < 1
  · rw [if_pos h1, show j = 0 from by omega, h]
  · rw [if_neg h1]; split <;> rfl
theorem upTo_set {F : Nat → Nat} {K s v u : Nat} (hs : s < K) : (lst K (upTo F s v)).set s (u : Int) = lst K (upTo F s u) :=
  lst_set hs (upTo_at F s u) (fun i _ hi => by unfold upTo; rw [if_neg hi, if_neg hi])

/-- The digit in front, none for 0. -/
def fz (b p s : Nat) : Nat := if s = 0 then 0 else fd b p s
/-- The number of digits found so far. -/
def cz (b p s n : Nat) : Nat := if n = 0 then 0 else mn (fwB b p) p s n
/-- The digit found so far. -/
def fc (b p s n : Nat) : Nat := fr (fwB b p) p s n

theorem fc_zero (b p s : Nat) : fc b p s 0 = 0 := rfl
theorem fc_pos {b : Nat} (p s : Nat) {n : Nat} (hb : 2 ≤ b) (hn : 1 ≤ n) : 1 ≤ fc b p s n := (fr_spec (fwB_le p hb) n hn).1
theorem cz_yes {b p s n : Nat} (hb : 2 ≤ b) (hs : s ≤ 2000) (h : n = 0 ∨ fw b p (s - (n + 1) ^ p) + 1 < cz b p s n) : cz b p s (n + 1) = fw b p (s - (n + 1) ^ p) + 1 ∧ fc b p s (n + 1) = n + 1 := by
  have e := fwB_eq (b := b) (p := p) (j := s - (n + 1) ^ p) (by omega)
  have hF := fwB_le p hb (s - (n + 1) ^ p)
  have e1 : cz b p s (n + 1) = min (mn (fwB b p) p s n) (1 + fwB b p (s - (n + 1) ^ p)) := if_neg (by omega)
  have e2 : fc b p s (n + 1) = if fc b p s n = 0 ∨ fwB b p (s - (n + 1) ^ p) + 1 < mn (fwB b p) p s n then n + 1 else fc b p s n := rfl
  rw [e1, e2]
  by_cases h0 : n = 0
  · subst h0
    have e3 : mn (fwB b p) p s 0 = 1000000 := rfl
    rw [e3, if_pos (.inl (fc_zero b p s)), e]
    rw [e] at hF
    exact ⟨by omega, rfl⟩
  · have e4 : cz b p s n = mn (fwB b p) p s n := if_neg h0
    rw [e4, ← e] at h
    have h' : fwB b p (s - (n + 1) ^ p) + 1 < mn (fwB b p) p s n := by omega
    rw [if_pos (.inr h'), ← e]
    exact ⟨by omega, rfl⟩
theorem cz_no {b p s n : Nat} (hb : 2 ≤ b) (hs : s ≤ 2000) (h0 : n ≠ 0) (h : ¬ fw b p (s - (n + 1) ^ p) + 1 < cz b p s n) : cz b p s (n + 1) = cz b p s n ∧ fc b p s (n + 1) = fc b p s n := by
  have e := fwB_eq (b := b) (p := p) (j := s - (n + 1) ^ p) (by omega)
  have e1 : cz b p s (n + 1) = min (mn (fwB b p) p s n) (1 + fwB b p (s - (n + 1) ^ p)) := if_neg (by omega)
  have e2 : fc b p s (n + 1) = if fc b p s n = 0 ∨ fwB b p (s - (n + 1) ^ p) + 1 < mn (fwB b p) p s n then n + 1 else fc b p s n := rfl
  have e4 : cz b p s n = mn (fwB b p) p s n := if_neg h0
  have hp := fc_pos p s hb (show 1 ≤ n by omega)
  rw [e1, e2]
  rw [e4, ← e] at h
  rw [e4, if_neg (by omega)]
  exact ⟨by omega, rfl⟩
theorem cz_end {b p s : Nat} (hb : 2 ≤ b) (hs : 1 ≤ s) (hs2 : s ≤ 2000) : cz b p s (dm b p s) = fw b p s ∧ fc b p s (dm b p s) = fz b p s := by
  have h1 := dm_pos (p := p) hb hs
  constructor
  · have e : cz b p s (dm b p s) = mn (fwB b p) p s (dm b p s) := if_neg (by omega)
    rw [e]
    obtain ⟨t, rfl⟩ : ∃ t, s = t + 1 := ⟨s - 1, by omega⟩
    rw [fw_succ]
    exact mn_congr (fun j hj => fwB_eq (by omega)) _
  · unfold fz
    rw [if_neg (by omega)]
    rfl
theorem cz_le {b : Nat} (p s : Nat) {n : Nat} (hb : 2 ≤ b) : cz b p s n ≤ 1000000 := by
  unfold cz
  split
  · omega
  · induction n with
    | zero => exact Nat.le_refl _
    | succ n ih => show min _ _ ≤ _
                   have : mn (fwB b p) p s n ≤ 1000000 := by
                     clear ih
                     induction n with
                     | zero => exact Nat.le_refl _
                     | succ n ih => show min _ _ ≤ _
                                    have := ih (by omega)
                                    omega
                   omega

set_option maxHeartbeats 4000000 in
theorem leastP_any (g c b p S : Nat) (w : World) (hT : Tp w g b p) (hb : 2 ≤ b) (hb' : b ≤ 16) (hp : 1 ≤ p) (hp' : p ≤ 8) (hS : S ≤ 2000) :
    Calls Try.prog 71 #[.slice (some ⟨g, 0, none⟩) b c, .int .i64 (S : Int)] w fun e w' => e = .returned (optRes (RLs b p S)) ∧ Below w.heap.size w w' := by
  have HT := Lib.hid hT
  obtain ⟨K, hK⟩ : ∃ K, K = S + 1 := ⟨_, rfl⟩
  have hKI : (S : Int) + 1 = (K : Int) := by omega
  have hKb : K ≤ 2001 := by omega
  have HK := Lib.hid hK
  have hwr : IntKind.i64.wrap (K : Int) = (K : Int) := IntWalk.i64_in _ (by omega)
  have HB0 := Lib.hid (show Below w.heap.size w w.drew from (Below.refl _ _).drew)
  clear hT hK
  have hmk := fun w0 : World => run_make_row' (P := Try.prog) 26 3 (.int .i64 0) 8 Try.underlying26 info3 rfl .i64 .i64 K (by omega) (by omega) w0
  obtain ⟨W2, hW2⟩ : ∃ W2, W2 = ((w.alloc (.cells (madeCells #[.int .i64 0] K) 3)).alloc (.cells (madeCells #[.int .i64 0] K) 3)).drew := ⟨_, rfl⟩
  have RA := Lib.hid (show Rd W2 w.heap.size (.slice (some ⟨w.heap.size, 0, none⟩) K K) (List.replicate K 0) by rw [hW2]; exact ((rd_made w K (by omega)).alloc (.cells (madeCells #[.int .i64 0] K) 3)).drew)
  have RB := Lib.hid (show Rd W2 w.heap.size (.slice (some ⟨w.heap.size + 1, 0, none⟩) K K) (List.replicate K 0) by
    rw [hW2]
    have h := (rd_made (w.alloc (.cells (madeCells #[.int .i64 0] K) 3)) K (by omega)).mono (show w.heap.size ≤ _ by simp)
    rw [World.size_alloc] at h
    exact h.drew)
  have HBa := Lib.hid (show Below w.heap.size w W2 by rw [hW2]; exact ((alloc_below w _).alloc (by simp) _).drew)
  have HW2 := Lib.hid hW2
  clear hW2
  have HZR := Lib.hid (show List.replicate K (0 : Int) = lst K (upTo (fw b p) 1 0) by rw [lst_rep]; exact lst_congr fun j _ => upTo_first (fw_zero b p) j)
  have HZZ := Lib.hid (show List.replicate K (0 : Int) = lst K (upTo (fz b p) 1 0) by rw [lst_rep]; exact lst_congr fun j _ => upTo_first rfl j)
  go_enter Try.func71, Try.ntmps71
  go_wp2
  go_region
  obtain ⟨gf, hgf⟩ : ∃ x, x = w.heap.size := ⟨_, rfl⟩
  obtain ⟨gr, hgr⟩ : ∃ x, x = w.heap.size + 1 := ⟨_, rfl⟩
  have hne : gf ≠ gr := by omega
  have RF := Lib.hid (show Rd W2 w.heap.size (.slice (some ⟨gf, 0, none⟩) K K) (List.replicate K 0) by rw [hgf]; exact RA.out)
  have RG := Lib.hid (show Rd W2 w.heap.size (.slice (some ⟨gr, 0, none⟩) K K) (List.replicate K 0) by rw [hgr]; exact RB.out)
  rw [← HW2.out, ← hgr, ← hgf]
  clear hgf hgr
  rotate_left
  obtain ⟨gr, hgr⟩ : ∃ x, x = w.heap.size := ⟨_, rfl⟩
  obtain ⟨gf, hgf⟩ : ∃ x, x = w.heap.size + 1 := ⟨_, rfl⟩
  have hne : gf ≠ gr := by omega
  have RF := Lib.hid (show Rd W2 w.heap.size (.slice (some ⟨gf, 0, none⟩) K K) (List.replicate K 0) by rw [hgf]; exact RB.out)
  have RG := Lib.hid (show Rd W2 w.heap.size (.slice (some ⟨gr, 0, none⟩) K K) (List.replicate K 0) by rw [hgr]; exact RA.out)
  rw [← HW2.out, ← hgf, ← hgr]
  clear hgf hgr
  all_goals
    rw [HZR.out] at RF
    rw [HZZ.out] at RG
    clear hmk hwr RA RB HW2 HZR HZZ
    go_wp2
    go_loopw [8] (fun i wr => ∃ s : Nat, 1 ≤ s ∧ s ≤ K ∧ i = .int .i64 (s : Int) ∧ Rd wr w.heap.size (.slice (some ⟨gf, 0, none⟩) K K) (lst K (upTo (fw b p) s 0)) ∧ Rd wr w.heap.size (.slice (some ⟨gr, 0, none⟩) K K) (lst K (upTo (fz b p) s 0)) ∧ Below w.heap.size w wr) (fun i _ => K - (intOf i).toNat)
    case atStart => exact ⟨1, by omega, by have := HK.out; omega, rfl, RF.out, RG.out, HBa.out⟩
    case round =>
      obtain ⟨s, s1, sK, rfl, hrf, hrg, hbl⟩ := hrel
      have HF := Lib.hid hrf
      have HG := Lib.hid hrg
      have HB := Lib.hid hbl
      clear hrf hrg hbl
      by_cases hlt : s ≤ S
      · obtain ⟨D, hD⟩ : ∃ D, D = dm b p s := ⟨_, rfl⟩
        have HD := Lib.hid (dm_spec (b := b) (p := p) (s := s) hb)
        have HCE := Lib.hid (cz_end (p := p) hb s1 (by omega))
        rw [← hD] at HD HCE
        have hDb : D < b := HD.out.1
        have HF0 := Lib.hid (show Rd wr w.heap.size (.slice (some ⟨gf, 0, none⟩) K K) (lst K (upTo (fw b p) s (cz b p s 0))) from HF.out)
        have HG0 := Lib.hid (show Rd wr w.heap.size (.slice (some ⟨gr, 0, none⟩) K K) (lst K (upTo (fz b p) s (fc b p s 0))) from HG.out)
        have hsK : s < K := by have := HK.out; omega
        clear HF HG hD
        go_wp2
        go_loopw [9] (fun i wq => ∃ n : Nat, n ≤ D ∧ i = .int .i64 ((n : Int) + 1) ∧ Rd wq w.heap.size (.slice (some ⟨gf, 0, none⟩) K K) (lst K (upTo (fw b p) s (cz b p s n))) ∧ Rd wq w.heap.size (.slice (some ⟨gr, 0, none⟩) K K) (lst K (upTo (fz b p) s (fc b p s n))) ∧ Below w.heap.size w wq) (fun i _ => D + 1 - (intOf i).toNat)
        case atStart => exact ⟨0, Nat.zero_le _, rfl, HF0.out, HG0.out, HB.out⟩
        case round =>
          obtain ⟨n, hn, rfl, hrf, hrg, hbl⟩ := hrel
          have HF := Lib.hid hrf
          have HG := Lib.hid hrg
          have HBq := Lib.hid hbl
          have hszq := hbl.size
          clear hrf hrg hbl
          obtain ⟨d, hd⟩ : ∃ d, d = n + 1 := ⟨_, rfl⟩
          have hdi : (n : Int) + 1 = (d : Int) := by omega
          rw [hdi]
          have HDn := Lib.hid hd
          clear hdi
          by_cases hlD : n < D
          · obtain ⟨q1, q2⟩ := HD.out.2.1 n hlD
            rw [← hd] at q1 q2
            have hct := (HT.out.keepB HBq.out HT.out.lt hszq).cell d q1
            obtain ⟨u, hu⟩ : ∃ u, u = d ^ p := ⟨_, rfl⟩
            rw [← hu] at hct q2
            obtain ⟨q, hq⟩ : ∃ q, q = s - u := ⟨_, rfl⟩
            have hqi : (s : Int) - (u : Int) = (q : Int) := by omega
            have hu1 : 1 ≤ u := by rw [hu]; exact Nat.pow_pos (by omega)
            have hqs : q < s := by omega
            have hqK : q < K := by omega
            have hcq := HF.out.at.2.2.2.2.1 q (by rw [lst_len]; exact hqK)
            rw [lst_at, upTo_lt hqs] at hcq
            have hcs := HF.out.at.2.2.2.2.1 s (by rw [lst_len]; exact hsK)
            rw [lst_at, upTo_at] at hcs
            have hfs := HF.out.at.2.2.2.2.2 s
            have hcr := HG.out.at.2.2.2.2.1 s (by rw [lst_len]; exact hsK)
            rw [lst_at, upTo_at] at hcr
            have hfr := HG.out.at.2.2.2.2.2 s
            have hgf := HF.out.at.2.1
            have hgr := HG.out.at.2.1
            have HCY := Lib.hid (fun h => cz_yes (b := b) (p := p) (s := s) (n := n) hb (by omega) h)
            have HCN := Lib.hid (fun h0 h => cz_no (b := b) (p := p) (s := s) (n := n) hb (by omega) h0 h)
            have HFP := Lib.hid (fun h => fc_pos p s (n := n) hb h)
            have hczb := cz_le p s (n := n) hb
            have hfwb := fw_le p hb q
            rw [← hd, ← hu, ← hq] at HCY HCN
            clear hd
            have hxD : fc b p s n ≤ D := by
              by_cases h0 : n = 0
              · subst h0; rw [fc_zero]; omega
              · have := (fr_spec (F := fwB b p) (p := p) (s := s) (fwB_le p hb) n (by omega)).2.1; exact Nat.le_trans this hn
            have HFZ := Lib.hid (fc_zero b p s)
            obtain ⟨v, hv⟩ : ∃ v, v = fw b p q := ⟨_, rfl⟩
            obtain ⟨y, hy⟩ : ∃ y, y = cz b p s n := ⟨_, rfl⟩
            obtain ⟨x, hx⟩ : ∃ x, x = fc b p s n := ⟨_, rfl⟩
            rw [← hv] at hcq HCY HCN hfwb
            rw [← hy] at hcs HCY HCN hczb HF
            rw [← hx] at hcr HCN HG HFP hxD
            have HXN := Lib.hid (show x = 0 ↔ n = 0 from ⟨fun h => by
              by_cases h0 : n = 0
              · exact h0
              · have := HFP.out (by omega); omega, fun h => by rw [hx, h, HFZ.out]⟩)
            clear hu hq hv hy hx
            by_cases hyes : n = 0 ∨ v + 1 < y
            · obtain ⟨e1, e2⟩ := HCY.out hyes
              have H1 := Lib.hid (two_rows HG.out HF.out (Ne.symm hne) s ((v + 1 : Nat) : Int))
              have HB1 := Lib.hid (HBq.out.setCell (p := ⟨gf, s, none⟩) hgf (.int .i64 ((v + 1 : Nat) : Int)))
              have H2 := Lib.hid (two_rows H1.out.2 H1.out.1 hne s (d : Int))
              have HB2 := Lib.hid (HB1.out.setCell (p := ⟨gr, s, none⟩) hgr (.int .i64 (d : Int)))
              rw [upTo_set hsK, upTo_set hsK] at H2
              have hcast : ((v + 1 : Nat) : Int) = (v : Int) + 1 := by push_cast; rfl
              rw [hcast] at H2 HB2
              have E1 := Lib.hid e1
              have E2 := Lib.hid e2
              have hne2 : gr ≠ gf := Ne.symm hne
              clear H1 HB1 e1 e2 hgf hgr hcast
              by_cases h0 : n = 0
              · have hx0 : x = 0 := HXN.out.2 h0
                have hz : ((x : Int) == 0) = true := beq_yes (by omega)
                clear hyes h0 hx0 hszq
                go_wp2
                go_roundw
                case rel => exact ⟨n + 1, by omega, vint (by have := HDn.out; omega), by rw [← HDn.out, E1.out]; exact H2.out.1, by rw [← HDn.out, E2.out]; exact H2.out.2, HB2.out⟩
                case measure => have := HDn.out; simp [intOf]; omega
              · have hx0 : x ≠ 0 := fun h => h0 (HXN.out.1 h)
                have hz : ((x : Int) == 0) = false := beq_no (by omega)
                have hvy : (v : Int) + 1 < (y : Int) := by omega
                clear hyes h0 hx0 hszq
                go_wp2
                go_roundw
                case rel => exact ⟨n + 1, by omega, vint (by have := HDn.out; omega), by rw [← HDn.out, E1.out]; exact H2.out.1, by rw [← HDn.out, E2.out]; exact H2.out.2, HB2.out⟩
                case measure => have := HDn.out; simp [intOf]; omega
            · have h0 : n ≠ 0 := fun h => hyes (.inl h)
              obtain ⟨e1, e2⟩ := HCN.out h0 (fun h => hyes (.inr h))
              have E1 := Lib.hid e1
              have E2 := Lib.hid e2
              have hx0 : x ≠ 0 := fun h => h0 (HXN.out.1 h)
              have hz : ((x : Int) == 0) = false := beq_no (by omega)
              have hvy : ¬ (v : Int) + 1 < (y : Int) := fun h => hyes (.inr (by omega))
              clear hyes h0 hx0 hszq e1 e2 hgf hgr
              go_wp2
              go_roundw
              case rel => exact ⟨n + 1, by omega, vint (by have := HDn.out; omega), by rw [← HDn.out, E1.out]; exact HF.out, by rw [← HDn.out, E2.out]; exact HG.out, HBq.out⟩
              case measure => have := HDn.out; simp [intOf]; omega
          · obtain rfl : n = D := by omega
            have hnot := HD.out.2.2
            rw [← hd] at hnot
            clear hd
            rw [HCE.out.1] at HF
            rw [HCE.out.2] at HG
            have HF2 := Lib.hid (show lst K (upTo (fw b p) s (fw b p s)) = lst K (upTo (fw b p) (s + 1) 0) from lst_congr fun j _ => upTo_next rfl j)
            have HG2 := Lib.hid (show lst K (upTo (fz b p) s (fz b p s)) = lst K (upTo (fz b p) (s + 1) 0) from lst_congr fun j _ => upTo_next rfl j)
            rw [HF2.out] at HF
            rw [HG2.out] at HG
            by_cases hdb : d < b
            · have hct := (HT.out.keepB HBq.out HT.out.lt hszq).cell d hdb
              obtain ⟨u, hu⟩ : ∃ u, u = d ^ p := ⟨_, rfl⟩
              rw [← hu] at hct hnot
              have hus : ¬ u ≤ s := fun h => hnot ⟨hdb, h⟩
              clear hnot hu hszq
              go_wp2
              go_roundw
              case rel => exact ⟨s + 1, by omega, by omega, vint (by omega), HF.out, HG.out, HBq.out⟩
              case measure => simp [intOf]; omega
            · clear hnot hszq
              go_wp2
              go_roundw
              case rel => exact ⟨s + 1, by omega, by omega, vint (by omega), HF.out, HG.out, HBq.out⟩
              case measure => simp [intOf]; omega
      · obtain rfl : s = K := by have := HK.out; omega
        obtain ⟨w3, rfl⟩ : ∃ w3 : World, w3 = wr := ⟨_, rfl⟩
        have HT3 := Lib.hid (HT.out.keepB HB.out HT.out.lt HB.out.size)
        clear HF RF RG
        go_wp2
        go_loopw [11, 12] (fun o i wq => ∃ (t m : Nat) (xs : List Int), t ≤ S ∧ fw b p t ≤ m ∧ i = .int .i64 (t : Int) ∧ xs.length + m = 2000 ∧ xs ++ dgL b p m t = dgL b p 2000 S ∧ Rd wq w3.heap.size o xs ∧ Below w3.heap.size w3 wq) (fun _ i _ => (intOf i).toNat)
        case atStart => exact ⟨S, 2000, [], Nat.le_refl _, by have := fw_le p hb S; omega, rfl, rfl, rfl, Rd.nil _ _, Below.refl _ _⟩
        case round =>
          obtain ⟨t, m, xs, htS, hfm, rfl, hxm, hxe, hr, hbl⟩ := hrel
          have HR := Lib.hid hr
          have HBq := Lib.hid hbl
          have HXE := Lib.hid hxe
          have HXM := Lib.hid hxm
          have hxl : xs.length ≤ 2000 := by omega
          have hsz := hbl.size
          clear hr hbl hxe hxm
          by_cases ht0 : 0 < t
          · have hm1 : 1 ≤ m := by have := fw_pos (b := b) (p := p) (s := t) ht0; omega
            obtain ⟨m', rfl⟩ : ∃ m', m = m' + 1 := ⟨m - 1, by omega⟩
            obtain ⟨f1, f2, f3, f4, f5⟩ := fd_spec (p := p) hb ht0 (by omega)
            have hfz : fz b p t = fd b p t := if_neg (by omega)
            have HDS := Lib.hid (dgL_step (b := b) (p := p) (n := m') ht0)
            have HCR := Lib.hid (show ∀ wq, Below w3.heap.size w3 wq → wq.cell? ⟨gr, t, none⟩ = some (.int .i64 ((fd b p t : Nat) : Int)) from fun wq hb => by
              rw [(HG.out.keep hb).at.2.2.2.2.1 t (by rw [lst_len]; omega), lst_at, upTo_lt (by omega), hfz])
            obtain ⟨d, hd⟩ : ∃ d, d = fd b p t := ⟨_, rfl⟩
            rw [← hd] at HCR f1 f2 f3 f4 HDS
            have HCT := Lib.hid (show ∀ wq, Below w3.heap.size w3 wq → wq.cell? ⟨g, d, none⟩ = some (.int .i64 ((d ^ p : Nat) : Int)) from fun wq hb => (HT3.out.keep hb).cell d f2)
            obtain ⟨u, hu⟩ : ∃ u, u = d ^ p := ⟨_, rfl⟩
            rw [← hu] at HCT f3 f4 HDS
            have hu1 : 1 ≤ u := by rw [hu]; exact Nat.pow_pos (by omega)
            have HF4 := Lib.hid (show fw b p (t - u) ≤ m' by omega)
            have HE2 := Lib.hid (show (xs ++ [(d : Int)]) ++ dgL b p m' (t - u) = dgL b p 2000 S by rw [List.append_assoc, ← HXE.out, HDS.out]; rfl)
            obtain ⟨q, hq⟩ : ∃ q, q = t - u := ⟨_, rfl⟩
            have hqi : (t : Int) - (u : Int) = (q : Int) := by omega
            rw [← hq] at HF4 HE2
            have hqt : q < t := by omega
            have hcr := HCR.out _ HBq.out
            clear f4 f5 hd hu hfz hq hfm f1
            go_wp2_with (at_builtin; refine wpList_appR rfl _ _ rfl w3.heap.size w3.heap.size _ _ xs [(d : Int)] rfl rfl (HR.out.alloc _) (Rd.litB _ _ _ (by omega)) (by simp; omega) (by simp; omega) ?_; intro v1 w4 hr1 hg1 hb1; have HR1 := Lib.hid hr1; have hB1 := (HBq.out.alloc (by omega) _).trans hb1; have HB1 := Lib.hid hB1; have hcr2 := HCR.out _ hB1; have hct2 := HCT.out _ hB1; clear hr1 hg1 hb1 hB1)
            go_roundw
            case rel => exact ⟨q, m', xs ++ [(d : Int)], by omega, HF4.out, vint (by omega), by have := HXM.out; simp; omega, HE2.out, HR1.out, HB1.out⟩
            case measure => simp [intOf]; omega
          · obtain rfl : t = 0 := by omega
            have HXX := Lib.hid (show xs = dgL b p 2000 S by rw [← HXE.out, dgL_zero, List.append_nil])
            have HPS := Lib.hid (show ∀ x ∈ xs, 1 ≤ x ∧ x ≤ (b : Int) - 1 by rw [HXX.out]; exact dgL_pos hb 2000 S hS)
            have HBz := Lib.hid (Below.step HB.out HB.out.size HBq.out)
            go_wp2_with (first | (go_at_call 81; refine (radixP_any b g c _ hb').mono ?_; rintro e w5 ⟨rfl, rfl⟩) | (go_at_call 84; refine (number_any _ xs _ _ _ HR.out (fun x hx => by have := HPS.out x hx; omega) (by omega) (by omega) (by omega)).mono ?_; rintro e w5 ⟨rfl, rfl⟩))
            go_ret2
            exact ⟨by unfold RLs; rw [← HXX.out]; rfl, HBz.out⟩

end Go.Proofs.Ytnniiobiedfmoaa

/- from XUU -/
namespace Go.Proofs.Ytnniiobiedfmoaa
open Go.RowKit
set_option linter.unusedVariables false
set_option linter.unusedSimpArgs false
set_option maxRecDepth 100000

def OKL (s b p : Int) : Bool := decide ((0 ≤ s ∧ s ≤ 2000) ∧ Bas b ∧ Pow p 8)
def V_LeastWithSum (s b p : Int) : Option Int := if OKL s b p = true then RLs b.toNat p.toNat s.toNat else none
abbrev R_LeastWithSum (s b p : Int) : Value := optRes (V_LeastWithSum s b p)

theorem l1Least_any (a b : Nat) (w : World) (ha : a ≤ 1000000000) (hb : b ≤ 1000000000) :
    Calls Try.prog 73 #[.int .i64 (a : Int), .int .i64 (b : Int)] w fun e w' => e = .returned (.int .i64 ((min a b : Nat) : Int)) ∧ w = w' := by
  by_cases h : a < b
  · have HM := Lib.hid (show min a b = a by omega)
    have hc : ((a : Nat) : Int) < ((b : Nat) : Int) := by omega
    go_enter Try.func73, Try.ntmps73
    go_wp2
    go_ret
    exact ⟨by rw [HM.out]; rfl, rfl⟩
  · have HM := Lib.hid (show min a b = b by omega)
    have hc : ¬ ((a : Nat) : Int) < ((b : Nat) : Int) := by omega
    go_enter Try.func73, Try.ntmps73
    go_wp2
    go_ret
    exact ⟨by rw [HM.out]; rfl, rfl⟩

theorem mn_le0 {F : Nat → Nat} {p s : Nat} : ∀ n, mn F p s n ≤ 1000000
  | 0 => Nat.le_refl _
  | n + 1 => by show min _ _ ≤ _; have := mn_le0 (F := F) (p := p) (s := s) n; omega

set_option maxHeartbeats 4000000 in
theorem spec_least_yes (S b p : Nat) (w : World) (hb : 2 ≤ b) (hb' : b ≤ 16) (hp : 1 ≤ p) (hp' : p ≤ 8) (hS : S ≤ 2000) :
    Calls Try.prog 33 #[.int .i64 (S : Int), .int .i64 (b : Int), .int .i64 (p : Int)] w fun e w' => e = .returned (optRes (RLs b p S)) ∧ Below w.heap.size w w' := by
  have a2 : decide (Bas (b : Int)) = true := decide_eq_true ⟨by omega, by omega⟩
  have a3 : decide (Pow (p : Int) 8) = true := decide_eq_true ⟨by omega, by omega⟩
  have m0 : (0 : Int) ≤ (S : Int) := by omega
  have m1 : (S : Int) ≤ 2000 := by omega
  have HPW := Lib.hid (show ∀ (d u : Nat) (w' : World), d ≤ 15 → u = d ^ p → Calls Try.prog 72 #[.int .i64 (d : Int), .int .i64 (p : Int)] w' fun e w'' => e = .returned (.int .i64 (u : Int)) ∧ w'' = w' from fun d u w' hd hu => by
    subst hu; exact (pwOf_any d p w' hd hp').mono (fun e w'' h => ⟨h.1, h.2.symm⟩))
  go_enter Try.func33, Try.ntmps33
  go_wp2_with (first | (go_at_call 68; refine (l1In_yes _ _ _ _ m0 m1).mono ?_; rintro e w1 ⟨rfl, rfl⟩) | (go_at_call 58; refine (dgBase_any _ _).mono ?_; rintro e w1 ⟨rfl, rfl⟩) | (go_at_call 42; refine (pwPower_any _ _ _).mono ?_; rintro e w1 ⟨rfl, rfl⟩))
  go_loopw [8, 9] (fun o i wr => ∃ (s : Nat) (u : Value), 1 ≤ s ∧ s ≤ S + 1 ∧ i = .int .i64 (s : Int) ∧ u = o ∧ Rd wr w.heap.size u (lst s (fw b p)) ∧ Below w.heap.size w wr) (fun _ i _ => S + 1 - (intOf i).toNat)
  case atStart => exact ⟨1, _, by omega, by omega, rfl, rfl, Rd.lit _ _, alloc_below _ _⟩
  case round =>
    obtain ⟨s, u, s1, sS, rfl, rfl, hr, hbl⟩ := hrel
    obtain ⟨gu, cu, rfl⟩ : ∃ gu cu, u = .slice (some ⟨gu, 0, none⟩) s cu := by
      rcases hr.cases with ⟨_, hx⟩ | ⟨gu, cu, hu, _⟩
      · have := congrArg List.length hx; rw [lst_len] at this; simp at this; omega
      · rw [lst_len] at hu; exact ⟨gu, cu, hu⟩
    have HR := Lib.hid hr
    have HB := Lib.hid hbl
    have hsz := hbl.size
    clear hr hbl
    by_cases hlt : s ≤ S
    · obtain ⟨D, hD⟩ : ∃ D, D = dm b p s := ⟨_, rfl⟩
      have HD := Lib.hid (dm_spec (b := b) (p := p) (s := s) hb)
      have HFE := Lib.hid (show mn (fw b p) p s D = fw b p s by
        obtain ⟨t, rfl⟩ : ∃ t, s = t + 1 := ⟨s - 1, by omega⟩
        rw [fw_succ, hD])
      rw [← hD] at HD
      have hDb : D < b := HD.out.1
      clear hD
      go_wp2
      go_loop [10, 11] (fun e i => ∃ n : Nat, n ≤ D ∧ i = .int .i64 ((n : Int) + 1) ∧ e = .int .i64 ((mn (fw b p) p s n : Nat) : Int)) (fun _ i => D + 1 - (intOf i).toNat)
      case atStart => exact ⟨0, Nat.zero_le _, rfl, rfl⟩
      case round =>
        obtain ⟨n, hn, rfl, rfl⟩ := hrel
        obtain ⟨d, hd⟩ : ∃ d, d = n + 1 := ⟨_, rfl⟩
        have hdi : (n : Int) + 1 = (d : Int) := by omega
        rw [hdi]
        have HDn := Lib.hid hd
        clear hdi
        obtain ⟨y, hy⟩ : ∃ y, y = mn (fw b p) p s n := ⟨_, rfl⟩
        have hyb : y ≤ 1000000 := by rw [hy]; exact mn_le0 n
        by_cases hlD : n < D
        · obtain ⟨q1, q2⟩ := HD.out.2.1 n hlD
          rw [← hd] at q1 q2
          obtain ⟨u, hu⟩ : ∃ u, u = d ^ p := ⟨_, rfl⟩
          have HU := Lib.hid (HPW.out d u · (by omega) hu)
          rw [← hu] at q2
          obtain ⟨q, hq⟩ : ∃ q, q = s - u := ⟨_, rfl⟩
          have hqi : (s : Int) - (u : Int) = (q : Int) := by omega
          have hu1 : 1 ≤ u := by rw [hu]; exact Nat.pow_pos (by omega)
          have hqs : q < s := by omega
          have hcq := HR.out.at.2.2.2.2.1 q (by rw [lst_len]; exact hqs)
          rw [lst_at] at hcq
          have HST := Lib.hid (show mn (fw b p) p s d = min y (1 + fw b p q) by rw [hd, hq, hu, hd, hy]; rfl)
          have hfb := fw_le p hb q
          obtain ⟨v, hv⟩ : ∃ v, v = fw b p q := ⟨_, rfl⟩
          rw [← hv] at hcq HST hfb
          rw [← hy]
          have hv1 : (1 : Int) + (v : Int) = ((1 + v : Nat) : Int) := by push_cast; rfl
          have HV1 := Lib.hid hv1
          clear hu hq hv hd hy hv1
          go_wp2_with (first | (go_at_call 72; refine (HU.out _).mono ?_; rintro e w1 ⟨rfl, rfl⟩) | (go_at_call 73; rw [HV1.out]; refine (l1Least_any y (1 + v) _ (by omega) (by omega)).mono ?_; rintro e w1 ⟨rfl, rfl⟩))
          go_round
          case rel => exact ⟨n + 1, by omega, vint (by have := HDn.out; omega), by rw [← HDn.out, HST.out]⟩
          case measure => have := HDn.out; simp [intOf]; omega
        · obtain rfl : n = D := by omega
          have hnot := HD.out.2.2
          rw [← hd] at hnot
          rw [← hy] at HFE ⊢
          have HR2 := Lib.hid (show lst s (fw b p) ++ [(y : Int)] = lst (s + 1) (fw b p) by rw [lst_succ, HFE.out])
          by_cases hdb : d < b
          · obtain ⟨u, hu⟩ : ∃ u, u = d ^ p := ⟨_, rfl⟩
            have HU := Lib.hid (HPW.out d u · (by omega) hu)
            rw [← hu] at hnot
            have hus : ¬ u ≤ s := fun h => hnot ⟨hdb, h⟩
            clear hnot hu hd hy
            go_wp2_with (first | (go_at_call 72; refine (HU.out _).mono ?_; rintro e w1 ⟨rfl, rfl⟩) | (at_builtin; refine wpList_appR rfl _ _ rfl w.heap.size w.heap.size _ _ (lst s (fw b p)) [(y : Int)] rfl rfl (HR.out.alloc _) (Rd.litB _ _ _ (by omega)) (by rw [lst_len]; simp; omega) (by simp; omega) ?_; intro v1 w4 hr1 hg1 hb1; have HR1 := Lib.hid hr1; have HB1 := Lib.hid ((HB.out.alloc (by omega) _).trans hb1); clear hr1 hg1 hb1))
            go_roundw
            case rel => exact ⟨s + 1, _, by omega, by omega, by go_num, rfl, by rw [← HR2.out]; exact HR1.out, HB1.out⟩
            case measure => simp [intOf]; omega
          · clear hnot hd hy
            go_wp2_with (at_builtin; refine wpList_appR rfl _ _ rfl w.heap.size w.heap.size _ _ (lst s (fw b p)) [(y : Int)] rfl rfl (HR.out.alloc _) (Rd.litB _ _ _ (by omega)) (by rw [lst_len]; simp; omega) (by simp; omega) ?_; intro v1 w4 hr1 hg1 hb1; have HR1 := Lib.hid hr1; have HB1 := Lib.hid ((HB.out.alloc (by omega) _).trans hb1); clear hr1 hg1 hb1)
            go_roundw
            case rel => exact ⟨s + 1, _, by omega, by omega, by go_num, rfl, by rw [← HR2.out]; exact HR1.out, HB1.out⟩
            case measure => simp [intOf]; omega
    · obtain ⟨K, hK⟩ : ∃ K, K = s := ⟨_, rfl⟩
      have hKS : s = S + 1 := by omega
      have hSs : S < s := by omega
      have hcS := HR.out.at.2.2.2.2.1 S (by rw [lst_len]; exact hSs)
      rw [lst_at] at hcS
      have hfS := fw_le p hb S
      by_cases hbig : 40 < fw b p S
      · have HRN := Lib.hid (RLs_big (p := p) hb hb' hS hbig)
        obtain ⟨v, hv⟩ : ∃ v, v = fw b p S := ⟨_, rfl⟩
        rw [← hv] at hcS hbig
        clear hv hK hKS hfS
        go_wp2
        go_ret2
        exact ⟨by rw [HRN.out]; rfl, HB.out⟩
      · obtain ⟨v, hv⟩ : ∃ v, v = fw b p S := ⟨_, rfl⟩
        rw [← hv] at hcS hbig hfS
        clear hv hK
        have HKS := Lib.hid hKS
        clear hKS
        go_wp2
        go_loopw [0, 12] (fun i a wq => ∃ (t m acc : Nat), t ≤ S ∧ fw b p t ≤ m ∧ acc ≤ 1000000000000 ∧ i = .int .i64 (t : Int) ∧ a = .int .i64 (acc : Int) ∧ Hid (numF (b : Int) (dgL b p m t) (acc : Int) = RLs b p S) ∧ Rd wq w.heap.size (.slice (some ⟨gu, 0, none⟩) s cu) (lst s (fw b p)) ∧ Below w.heap.size w wq) (fun i _ _ => (intOf i).toNat)
        case atStart => exact ⟨S, 2000, 0, Nat.le_refl _, by have := fw_le p hb S; omega, by omega, rfl, rfl, Lib.hid rfl, HR.out, HB.out⟩
        case round =>
          obtain ⟨t, m, acc, htS, hfm, hacc, rfl, rfl, HNF, hr, hbl⟩ := hrel
          have HRq := Lib.hid hr
          have HBq := Lib.hid hbl
          clear hr hbl
          by_cases ht0 : 0 < t
          · have hm1 : 1 ≤ m := by have := fw_pos (b := b) (p := p) (s := t) ht0; omega
            obtain ⟨m', rfl⟩ : ∃ m', m = m' + 1 := ⟨m - 1, by omega⟩
            have HFD := Lib.hid (fd_spec (p := p) hb ht0 (show t ≤ 2000 by omega))
            have HDS := Lib.hid (dgL_step (b := b) (p := p) (n := m') ht0)
            obtain ⟨d, hd⟩ : ∃ d, d = fd b p t := ⟨_, rfl⟩
            rw [← hd] at HFD HDS
            have hdb : d < b := HFD.out.2.1
            have hfwt := fw_pos (b := b) (p := p) (s := t) ht0
            have hfwt2 := fw_le p hb t
            obtain ⟨z, hz⟩ : ∃ z, z = fw b p t := ⟨_, rfl⟩
            have HZ := Lib.hid hz
            rw [← hz] at hfm hfwt hfwt2
            clear hd hz
            go_wp2
            go_loopw [13] (fun i wq => ∃ x : Nat, 1 ≤ x ∧ x ≤ d ∧ i = .int .i64 (x : Int) ∧ Rd wq w.heap.size (.slice (some ⟨gu, 0, none⟩) s cu) (lst s (fw b p)) ∧ Below w.heap.size w wq) (fun i _ => d - (intOf i).toNat)
            case atStart => exact ⟨1, by omega, HFD.out.1, rfl, HRq.out, HBq.out⟩
            case round =>
              obtain ⟨x, x1, xd, rfl, hr, hbl⟩ := hrel
              have HRy := Lib.hid hr
              have HBy := Lib.hid hbl
              clear hr hbl
              obtain ⟨u, hu⟩ : ∃ u, u = x ^ p := ⟨_, rfl⟩
              have HU := Lib.hid (HPW.out x u · (by omega) hu)
              have hu1 : 1 ≤ u := by rw [hu]; exact Nat.pow_pos (by omega)
              have hut : u ≤ t := by have h1 := Nat.pow_le_pow_left xd p; have h2 := HFD.out.2.2.1; rw [hu]; omega
              obtain ⟨q, hq⟩ : ∃ q, q = t - u := ⟨_, rfl⟩
              have hqi : (t : Int) - (u : Int) = (q : Int) := by omega
              have hqs : q < s := by omega
              have hts : t < s := by omega
              have hcq := HRy.out.at.2.2.2.2.1 q (by rw [lst_len]; exact hqs)
              rw [lst_at] at hcq
              have hct := HRy.out.at.2.2.2.2.1 t (by rw [lst_len]; exact hts)
              rw [lst_at, ← HZ.out] at hct
              have hfq := fw_le p hb q
              have HXF := Lib.hid (show x < d → fw b p q + 1 ≠ z by intro hx; rw [hq, hu, HZ.out]; exact HFD.out.2.2.2.2 x x1 hx)
              have HXE := Lib.hid (show x = d → fw b p q + 1 = z by intro hx; rw [hq, hu, hx, HZ.out]; exact HFD.out.2.2.2.1)
              have HQD := Lib.hid (show x = d → q = t - d ^ p by intro hx; rw [hq, hu, hx])
              obtain ⟨v, hv⟩ : ∃ v, v = fw b p q := ⟨_, rfl⟩
              rw [← hv] at hcq HXF HXE hfq
              have HVQ := Lib.hid hv
              have hz1 : (z : Int) - 1 = ((z - 1 : Nat) : Int) := by omega
              obtain ⟨z1, hz1'⟩ : ∃ z1, z1 = z - 1 := ⟨_, rfl⟩
              have hzz : (z : Int) - 1 = (z1 : Int) := by omega
              have hIq : (0 : Int) ≤ (q : Int) := by omega
              have hIqs : (q : Int) < (s : Int) := by omega
              have hIt : (0 : Int) ≤ (t : Int) := by omega
              have hIts : (t : Int) < (s : Int) := by omega
              have hwq : IntKind.i64.wrap (q : Int) = (q : Int) := IntWalk.i64_in _ (by omega)
              have hwz : IntKind.i64.wrap (z1 : Int) = (z1 : Int) := IntWalk.i64_in _ (by omega)
              by_cases hxd : x < d
              · have hne := HXF.out hxd
                have hbn : ((v : Int) != (z1 : Int)) = true := bne_yes (by omega)
                clear hu hq hv hz1 hne hz1'
                go_wp2
                go_quiet (first | (go_at_call 72; exact Calls.quiet_of_same (HU.out _)))
                go_wp2
                go_roundw
                case rel => exact ⟨x + 1, by omega, by omega, by go_num, HRy.out.drewN _, below_drewN' HBy.out _⟩
                case measure => simp [intOf]; omega
              · obtain rfl : x = d := by omega
                have hE := HXE.out rfl
                have HQE := Lib.hid (HQD.out rfl)
                have hbn : ((v : Int) != (z1 : Int)) = false := bne_no (by omega)
                have hma : acc * b ≤ 16000000000000 := by have := Nat.mul_le_mul hacc hb'; omega
                obtain ⟨r, hr⟩ : ∃ r, r = acc * b := ⟨_, rfl⟩
                have hri : (acc : Int) * (b : Int) = (r : Int) := by rw [hr]; push_cast; rfl
                rw [← hr] at hma
                obtain ⟨k, hk⟩ : ∃ k, k = r + x := ⟨_, rfl⟩
                have hki : (r : Int) + (x : Int) = (k : Int) := by omega
                have hfz : fw b p q ≤ m' := by rw [← HVQ.out]; omega
                have HNS := Lib.hid (show RLs b p S = if 1000000000000 < (k : Int) then none else numF (b : Int) (dgL b p m' q) (k : Int) by
                  rw [← HNF.out, HDS.out, HQE.out, numF, hri, hki])
                clear hu hq hv hz1 hE hz1' hr hk
                by_cases hgt : 1000000000000 < k
                · have hgi : (1000000000000 : Int) < (k : Int) := by omega
                  have HRN := Lib.hid (show RLs b p S = none by rw [HNS.out, if_pos hgi])
                  go_wp2
                  go_quiet (first | (go_at_call 72; exact Calls.quiet_of_same (HU.out _)))
                  go_wp2
                  go_ret2
                  exact ⟨by rw [HRN.out]; rfl, below_drewN' HBy.out _⟩
                · have hgi : ¬ (1000000000000 : Int) < (k : Int) := by omega
                  have HRN := Lib.hid (show numF (b : Int) (dgL b p m' q) (k : Int) = RLs b p S by rw [HNS.out, if_neg hgi])
                  go_wp2
                  go_quiet (first | (go_at_call 72; exact Calls.quiet_of_same (HU.out _)))
                  go_wp2_with (go_at_call 72; refine (HU.out _).mono ?_; rintro e w1 ⟨rfl, rfl⟩)
                  go_roundw
                  case rel => exact ⟨q, m', k, by omega, hfz, by omega, vint (by omega), by first | rfl | go_num, HRN, HRy.out.drewN _, below_drewN' HBy.out _⟩
                  case measure => simp [intOf]; omega
          · obtain rfl : t = 0 := by omega
            have HE := Lib.hid (show RLs b p S = some (acc : Int) by rw [← HNF.out, dgL_zero]; rfl)
            go_wp2
            go_ret2
            exact ⟨by rw [HE.out]; rfl, HBq.out⟩

theorem okl_cases (s b p : Int) : (OKL s b p = true ∧ ∃ S B P : Nat, s = (S : Int) ∧ b = (B : Int) ∧ p = (P : Int) ∧ S ≤ 2000 ∧ 2 ≤ B ∧ B ≤ 16 ∧ 1 ≤ P ∧ P ≤ 8) ∨ OKL s b p = false := by
  cases h : OKL s b p
  · exact .inr rfl
  · obtain ⟨h1, h2, h3⟩ := of_decide_eq_true h
    obtain ⟨h2a, h2b⟩ := h2
    obtain ⟨h3a, h3b⟩ := h3
    exact .inl ⟨rfl, s.toNat, b.toNat, p.toNat, by omega, by omega, by omega, by omega, by omega, by omega, by omega, by omega⟩

theorem spec_LeastWithSum (s b p : Int) (w : World) :
    Calls Try.prog 33 #[.int .i64 s, .int .i64 b, .int .i64 p] w fun e w' => e = .returned (R_LeastWithSum s b p) ∧ Below w.heap.size w w' := by
  rcases okl_cases s b p with ⟨hok, S, B, P, rfl, rfl, rfl, h1, h2, h3, h4, h5⟩ | hn
  · have HV : V_LeastWithSum (S : Int) (B : Int) (P : Int) = RLs B P S := by unfold V_LeastWithSum; rw [if_pos hok]; rfl
    unfold R_LeastWithSum
    rw [HV]
    exact spec_least_yes S B P w h2 h3 h4 h5 h1
  · have HV := Lib.hid (show V_LeastWithSum s b p = none by unfold V_LeastWithSum; rw [hn]; rfl)
    have hnot := of_decide_eq_false hn
    by_cases hs : 0 ≤ s ∧ s ≤ 2000
    · obtain ⟨m0, m1⟩ := hs
      by_cases hb : Bas b
      · have a2 : decide (Bas b) = true := decide_eq_true hb
        have a3 : decide (Pow p 8) = false := decide_eq_false (fun h => hnot ⟨⟨m0, m1⟩, hb, h⟩)
        clear hn hnot hb
        go_enter Try.func33, Try.ntmps33
        go_wp2_with (first | (go_at_call 68; refine (l1In_yes _ _ _ _ m0 m1).mono ?_; rintro e w1 ⟨rfl, rfl⟩) | (go_at_call 58; refine (dgBase_any _ _).mono ?_; rintro e w1 ⟨rfl, rfl⟩) | (go_at_call 42; refine (pwPower_any _ _ _).mono ?_; rintro e w1 ⟨rfl, rfl⟩))
        go_ret2
        exact ⟨by unfold R_LeastWithSum; rw [HV.out]; rfl, Below.refl _ _⟩
      · have a2 : decide (Bas b) = false := decide_eq_false hb
        clear hn hnot hb
        go_enter Try.func33, Try.ntmps33
        go_wp2_with (first | (go_at_call 68; refine (l1In_yes _ _ _ _ m0 m1).mono ?_; rintro e w1 ⟨rfl, rfl⟩) | (go_at_call 58; refine (dgBase_any _ _).mono ?_; rintro e w1 ⟨rfl, rfl⟩))
        go_ret2
        exact ⟨by unfold R_LeastWithSum; rw [HV.out]; rfl, Below.refl _ _⟩
    · have H := Lib.hid (show s < 0 ∨ 2000 < s by omega)
      clear hn hnot hs
      go_enter Try.func33, Try.ntmps33
      go_wp2_with (go_at_call 68; refine (l1In_no _ _ _ _ H.out).mono ?_; rintro e w1 ⟨rfl, rfl⟩)
      go_ret2
      exact ⟨by unfold R_LeastWithSum; rw [HV.out]; rfl, Below.refl _ _⟩

theorem impl_LeastWithSum (s b p : Int) (w : World) :
    Calls Try.prog 32 #[.int .i64 s, .int .i64 b, .int .i64 p] w fun e w' => e = .returned (R_LeastWithSum s b p) ∧ Below w.heap.size w w' := by
  rcases okl_cases s b p with ⟨hok, S, B, P, rfl, rfl, rfl, h1, h2, h3, h4, h5⟩ | hn
  · have HV := Lib.hid (show V_LeastWithSum (S : Int) (B : Int) (P : Int) = RLs B P S by unfold V_LeastWithSum; rw [if_pos hok]; rfl)
    have a2 : decide (Bas (B : Int)) = true := decide_eq_true ⟨by omega, by omega⟩
    have a3 : decide (Pow (P : Int) 8) = true := decide_eq_true ⟨by omega, by omega⟩
    have HLP := Lib.hid (fun (g c : Nat) (w' : World) (hT : Tp w' g B P) => leastP_any g c B P S w' hT h2 h3 h4 h5 h1)
    obtain ⟨o, ho⟩ : ∃ o, o = RLs B P S := ⟨_, rfl⟩
    rw [← ho] at HLP HV
    clear hok ho
    go_enter Try.func32, Try.ntmps32
    go_wp2_with (first | (go_at_call 48; refine (isBase_any _ _).mono ?_; rintro e w1 ⟨rfl, rfl⟩) | (go_at_call 49; refine (isPower_any _ _ _).mono ?_; rintro e w1 ⟨rfl, rfl⟩))
    refine (powersOf_any B P _ (by omega) (by omega) (by omega) (by omega)).mono ?_
    rintro e w1 ⟨g, c, rfl, hg, hT, hB⟩
    have HT := Lib.hid hT
    have HB := Lib.hid hB
    clear hg hT hB
    go_wp2_with fail
    refine (HLP.out g c _ HT.out).mono ?_
    rintro e w2 ⟨rfl, hb2⟩
    have HB2 := Lib.hid (Below.step HB.out HB.out.size hb2)
    clear hb2
    go_wp2
    go_ret2
    exact ⟨by unfold R_LeastWithSum; rw [HV.out]; rfl, HB2.out⟩
  · have HV := Lib.hid (show V_LeastWithSum s b p = none by unfold V_LeastWithSum; rw [hn]; rfl)
    have hnot := of_decide_eq_false hn
    by_cases h0 : s < 0
    · clear hn hnot
      go_enter Try.func32, Try.ntmps32
      go_wp2
      go_ret2
      exact ⟨by unfold R_LeastWithSum; rw [HV.out]; rfl, Below.refl _ _⟩
    · by_cases h1 : 2000 < s
      · clear hn hnot
        go_enter Try.func32, Try.ntmps32
        go_wp2
        go_ret2
        exact ⟨by unfold R_LeastWithSum; rw [HV.out]; rfl, Below.refl _ _⟩
      · by_cases hb : Bas b
        · have a2 : decide (Bas b) = true := decide_eq_true hb
          have a3 : decide (Pow p 8) = false := decide_eq_false (fun h => hnot ⟨by omega, hb, h⟩)
          clear hn hnot hb
          go_enter Try.func32, Try.ntmps32
          go_wp2_with (first | (go_at_call 48; refine (isBase_any _ _).mono ?_; rintro e w1 ⟨rfl, rfl⟩) | (go_at_call 49; refine (isPower_any _ _ _).mono ?_; rintro e w1 ⟨rfl, rfl⟩))
          go_ret2
          exact ⟨by unfold R_LeastWithSum; rw [HV.out]; rfl, Below.refl _ _⟩
        · have a2 : decide (Bas b) = false := decide_eq_false hb
          clear hn hnot hb
          go_enter Try.func32, Try.ntmps32
          go_wp2_with (go_at_call 48; refine (isBase_any _ _).mono ?_; rintro e w1 ⟨rfl, rfl⟩)
          go_ret2
          exact ⟨by unfold R_LeastWithSum; rw [HV.out]; rfl, Below.refl _ _⟩

end Go.Proofs.Ytnniiobiedfmoaa
