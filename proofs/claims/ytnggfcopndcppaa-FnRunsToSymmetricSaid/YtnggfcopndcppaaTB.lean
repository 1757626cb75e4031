/-
  Runs of numbers added to themselves backwards: plain mathematics.
-/
import Derived.Test.YtnggfcopndcppaaTA
import Derived.Test.YtnggfcopndcppaaP
namespace Go.Proofs.Ytnggfcopndcppaa
set_option linter.unusedVariables false
set_option linter.unusedSimpArgs false

/-- Digits of a chapter's words: some, at most 40, none in front that is 0 but for one alone. -/
def okR (b : Int) (xs : List Int) : Bool := decide (2 ≤ b ∧ b ≤ 16) && decide (xs.length ≤ 40) && areD b xs

structure Dg (b : Int) (xs : List Int) : Prop where
  b2 : 2 ≤ b
  b16 : b ≤ 16
  l1 : 1 ≤ xs.length
  l40 : xs.length ≤ 40
  all : ∀ x ∈ xs, 0 ≤ x ∧ x ≤ b - 1

theorem okR_dg {b : Int} {xs : List Int} (h : okR b xs = true) : Dg b xs := by
  simp only [okR, areD, Bool.and_eq_true, decide_eq_true_eq] at h
  exact ⟨h.1.1.1, h.1.1.2, by omega, h.1.2, (allIn_iff _ _ _).1 h.2.2⟩

/-- The digits of the sum of a number with the same backwards. -/
def rvA (b : Int) (xs : List Int) : List Int := (if 0 < coA b (smA 1 1 xs) 0 then [coA b (smA 1 1 xs) 0] else []) ++ (dgA b (smA 1 1 xs) 0).reverse

theorem Dg.co {b : Int} {xs : List Int} (h : Dg b xs) : 0 ≤ coA b (smA 1 1 xs) 0 ∧ coA b (smA 1 1 xs) 0 ≤ 1 := coA_pos b h.b2 _ 0 (smA_pos b xs h.all) (by omega) (by omega)

theorem rvA_len {b : Int} {xs : List Int} (h : Dg b xs) : xs.length ≤ (rvA b xs).length ∧ (rvA b xs).length ≤ xs.length + 1 := by
  unfold rvA
  split <;> simp [dgA_len, smA_len]

theorem rvA_len' {b : Int} {xs : List Int} : (rvA b xs).length = if 0 < coA b (smA 1 1 xs) 0 then xs.length + 1 else xs.length := by
  unfold rvA
  split <;> simp [dgA_len, smA_len]

theorem rvA_dg {b : Int} {xs : List Int} (h : Dg b xs) (hl : (rvA b xs).length ≤ 40) : Dg b (rvA b xs) := by
  have hb := h.b2
  refine ⟨h.b2, h.b16, Nat.le_trans h.l1 (rvA_len h).1, hl, fun x hx => ?_⟩
  unfold rvA at hx
  rcases List.mem_append.1 hx with hx | hx
  · have hc := h.co
    split at hx
    · simp at hx; omega
    · simp at hx
  · exact dgA_all b h.b2 _ 0 x (List.mem_reverse.1 hx)

/-- The digits and those behind 1, 2, .. times, until some are symmetric or there is no place. -/
def rvR (b : Int) : Nat → List Int → List (List Int)
  | 0, xs => [xs]
  | k + 1, xs => if palB xs = true then [xs] else if 40 < (rvA b xs).length then [xs] else xs :: rvR b k (rvA b xs)

theorem rvR_pal {b : Int} {xs : List Int} (h : palB xs = true) (k : Nat) : rvR b k xs = [xs] := by
  cases k with
  | zero => rfl
  | succ k => unfold rvR; rw [if_pos h]
theorem rvR_long {b : Int} {xs : List Int} (h : 40 < (rvA b xs).length) (k : Nat) : rvR b k xs = [xs] := by
  cases k with
  | zero => rfl
  | succ k => unfold rvR; split <;> first | rfl | rw [if_pos h]
theorem rvR_go {b : Int} {xs : List Int} (h : palB xs = false) (h2 : (rvA b xs).length ≤ 40) (k : Nat) : rvR b (k + 1) xs = xs :: rvR b k (rvA b xs) := by
  show (if palB xs = true then [xs] else if 40 < (rvA b xs).length then [xs] else xs :: rvR b k (rvA b xs)) = _
  rw [if_neg (by simp [h]), if_neg (by omega)]

/-- A run comes to a list behind those left. -/
structure RvS (b : Int) (most : Nat) (x0 : List Int) (ls : List (List Int)) (cur : List Int) : Prop where
  le : ls.length ≤ most
  eq : ls ++ rvR b (most - ls.length) cur = rvR b most x0
  dg : Dg b cur
  all : ∀ l ∈ ls, Dg b l

theorem RvS.start {b : Int} {x0 : List Int} (most : Nat) (h : Dg b x0) : RvS b most x0 [] x0 := ⟨Nat.zero_le _, rfl, h, fun l hl => by simp at hl⟩
theorem RvS.step {b : Int} {most : Nat} {x0 cur : List Int} {ls : List (List Int)} (h : RvS b most x0 ls cur) (hlt : ls.length < most) (hp : palB cur = false) (hl : (rvA b cur).length ≤ 40) : RvS b most x0 (ls ++ [cur]) (rvA b cur) := by
  refine ⟨by simp; omega, ?_, rvA_dg h.dg hl, fun l hm => ?_⟩
  · rw [← h.eq, List.append_assoc, List.length_append, List.length_singleton]
    obtain ⟨k, hk⟩ : ∃ k, most - ls.length = k + 1 := ⟨most - ls.length - 1, by omega⟩
    rw [hk, rvR_go hp hl, show most - (ls.length + 1) = k by omega]
    rfl
  · rcases List.mem_append.1 hm with hm | hm
    · exact h.all l hm
    · rw [List.mem_singleton.1 hm]; exact h.dg
theorem RvS.endMost {b : Int} {most : Nat} {x0 cur : List Int} {ls : List (List Int)} (h : RvS b most x0 ls cur) (hlt : most ≤ ls.length) : ls ++ [cur] = rvR b most x0 := by
  rw [← h.eq, show most - ls.length = 0 by omega]; rfl
theorem RvS.endPal {b : Int} {most : Nat} {x0 cur : List Int} {ls : List (List Int)} (h : RvS b most x0 ls cur) (hp : palB cur = true) : ls ++ [cur] = rvR b most x0 := by
  rw [← h.eq, rvR_pal hp]
theorem RvS.endLong {b : Int} {most : Nat} {x0 cur : List Int} {ls : List (List Int)} (h : RvS b most x0 ls cur) (hp : 40 < (rvA b cur).length) : ls ++ [cur] = rvR b most x0 := by
  rw [← h.eq, rvR_long hp]

/-- How many times are needed. -/
def rvT (b : Int) (most : Nat) (x0 : List Int) : Option Nat := if palB ((rvR b most x0).getLastD []) = true then some ((rvR b most x0).length - 1) else none
theorem rvT_of {b : Int} {most : Nat} {x0 cur : List Int} {ls : List (List Int)} (h : ls ++ [cur] = rvR b most x0) : rvT b most x0 = if palB cur = true then some ls.length else none := by
  unfold rvT
  rw [← h]
  simp
theorem rvR_len (b : Int) (most : Nat) (x0 : List Int) : 1 ≤ (rvR b most x0).length ∧ (rvR b most x0).length ≤ most + 1 := by
  induction most generalizing x0 with
  | zero => simp [rvR]
  | succ k ih =>
    unfold rvR
    have := ih (rvA b x0)
    split
    · simp
    · split
      · simp
      · simp; omega
theorem rvT_le {b : Int} {most : Nat} {x0 : List Int} {k : Nat} (h : rvT b most x0 = some k) : k ≤ most := by
  unfold rvT at h
  have := rvR_len b most x0
  split at h
  · simp at h; omega
  · cases h
theorem rvR_all {b : Int} {most : Nat} {x0 : List Int} (h : Dg b x0) : ∀ l ∈ rvR b most x0, Dg b l := by
  induction most generalizing x0 with
  | zero => intro l hl; simp [rvR] at hl; rw [hl]; exact h
  | succ k ih =>
    intro l hl
    unfold rvR at hl
    split at hl
    · simp at hl; rw [hl]; exact h
    · split at hl
      · simp at hl; rw [hl]; exact h
      · rcases List.mem_cons.1 hl with rfl | hl
        · exact h
        · exact ih (rvA_dg h (by omega)) l hl

end Go.Proofs.Ytnggfcopndcppaa
