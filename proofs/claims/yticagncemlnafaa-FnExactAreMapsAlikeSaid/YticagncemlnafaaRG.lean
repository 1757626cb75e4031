/-
  Plain mathematics: the least of the turned texts of a circle.
-/
import Derived.Test.YticagncemlnafaaRF
namespace Go.Proofs.Yticagncemlnafaa
open Go.RowKit
set_option linter.unusedVariables false
set_option linter.unusedSimpArgs false

/-- The texts of a circle begun at k, joined. -/
def rotL (ts : List Txt) (k : Nat) : List Txt := ts.drop k ++ ts.take k
def rotT (ts : List Txt) (k : Nat) : Txt := (rotL ts k).flatten
/-- The least of the first k of them, and of the first. -/
def minTo (ts : List Txt) : Nat → Txt
  | 0 => ts.flatten
  | k + 1 => if leB (minTo ts k) (rotT ts k) = true then minTo ts k else rotT ts k

theorem rotL_len (ts : List Txt) (k : Nat) : (rotL ts k).length = ts.length := by
  unfold rotL
  rw [List.length_append, List.length_drop, List.length_take]
  omega
theorem rotT_zero (ts : List Txt) : rotT ts 0 = ts.flatten := by simp [rotT, rotL]
theorem rotT_len (ts : List Txt) (k : Nat) : (rotT ts k).length = ts.flatten.length := by
  unfold rotT rotL
  have := congrArg (fun l => l.flatten.length) (List.take_append_drop k ts)
  simp only [List.flatten_append, List.length_append] at this ⊢
  omega
theorem minTo_len (ts : List Txt) : ∀ k, (minTo ts k).length = ts.flatten.length
  | 0 => rfl
  | k + 1 => by
    unfold minTo
    split
    · exact minTo_len ts k
    · exact rotT_len ts k
theorem leB_refl (a : Txt) : leB a a = true := by simp [leB]
theorem minTo_one (ts : List Txt) : minTo ts 1 = ts.flatten := by
  unfold minTo
  split
  · rfl
  · exact rotT_zero ts

theorem rotL_at {ts : List Txt} {k i : Nat} (hk : k < ts.length) (hi : i < ts.length) : (rotL ts k)[i]? = ts[(k + i) % ts.length]? := by
  unfold rotL
  by_cases h : k + i < ts.length
  · rw [Nat.mod_eq_of_lt h, List.getElem?_append_left (by rw [List.length_drop]; omega), List.getElem?_drop]
  · rw [List.getElem?_append_right (by rw [List.length_drop]; omega), List.length_drop, List.getElem?_take, if_pos (by omega)]
    congr 1
    rw [Nat.mod_eq_sub_mod (by omega), Nat.mod_eq_of_lt (by omega)]
    omega

/-- Texts of one length compare as they do within the same signs. -/
theorem lt_tail : ∀ (a b : Txt) (z : UInt8), a.length = b.length → (a ++ [z] < b ++ [z] ↔ a < b)
  | [], [], z, _ => by
    constructor
    · intro h; exact absurd h (List.lt_irrefl _)
    · intro h; exact absurd h (List.lt_irrefl _)
  | [], y :: b, z, h => by simp at h
  | x :: a, [], z, h => by simp at h
  | x :: a, y :: b, z, h => by
    have ih := lt_tail a b z (by simpa using h)
    simp only [List.cons_append, List.cons_lt_cons_iff, ih]
theorem lt_wrap (a b : Txt) (h : a.length = b.length) : (91 :: (a ++ [93]) < 91 :: (b ++ [93]) ↔ a < b) := by
  rw [List.cons_lt_cons_iff, lt_tail a b 93 h]
  constructor
  · rintro (h1 | ⟨_, h1⟩)
    · exact absurd h1 (by decide)
    · exact h1
  · intro h1; exact .inr ⟨rfl, h1⟩

theorem min_wrap (ts : List Txt) (k : Nat) : 91 :: (minTo ts (k + 1) ++ [93]) = if 91 :: (rotT ts k ++ [93]) < 91 :: (minTo ts k ++ [93]) then 91 :: (rotT ts k ++ [93]) else 91 :: (minTo ts k ++ [93]) := by
  have hl : (rotT ts k).length = (minTo ts k).length := by rw [rotT_len, minTo_len]
  by_cases h : rotT ts k < minTo ts k
  · have h2 : leB (minTo ts k) (rotT ts k) = false := by
      simp only [leB, decide_eq_false_iff_not]
      exact List.not_le.2 h
    rw [if_pos ((lt_wrap _ _ hl).2 h)]
    unfold minTo
    rw [if_neg (by rw [h2]; simp)]
  · have h2 : leB (minTo ts k) (rotT ts k) = true := by
      simp only [leB, decide_eq_true_eq]
      exact List.not_lt.1 h
    rw [if_neg (fun e => h ((lt_wrap _ _ hl).1 e))]
    conv => lhs; unfold minTo
    rw [if_pos h2]

/-- The texts of a map's cycles. -/
def cycT (f : Nat → Nat) (n : Nat) (l : List Nat) : Txt := 91 :: (minTo (l.map (tr f n)) l.length ++ [93])
/-- The name of a map. -/
def nameT (f : Nat → Nat) (n : Nat) : Txt := (srtT ((cycs f n).map (cycT f n))).flatten

end Go.Proofs.Yticagncemlnafaa
