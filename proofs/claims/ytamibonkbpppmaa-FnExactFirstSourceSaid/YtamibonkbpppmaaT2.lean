/-
  How long the numbers of a width take: the program's list; StepsSpread.
-/
import Derived.Test.YtamibonkbpppmaaT1
namespace Go.Proofs.Ytamibonkbpppmaa
open Go.RowKit
set_option linter.unusedVariables false
set_option linter.unusedSimpArgs false
set_option maxRecDepth 100000

theorem tmN_tmZ (V : Nat) (b : Int) (m i : Nat) : tmN (rvT b m (dgs b (b ^ (V - 1) + (i : Int)))) = tmZ V b m i := rfl

/-- How long the first n numbers of a width take. -/
def tzl (V : Nat) (b : Int) (m n : Nat) : List Int := (List.range n).map (tmZ V b m)
theorem tzl_len (V : Nat) (b : Int) (m n : Nat) : (tzl V b m n).length = n := by simp [tzl]
theorem tzl_succ (V : Nat) (b : Int) (m n : Nat) : tzl V b m (n + 1) = tzl V b m n ++ [tmZ V b m n] := by simp [tzl, List.range_succ]
theorem tzl_at (V : Nat) (b : Int) (m n j : Nat) (h : j < (tzl V b m n).length) : (tzl V b m n)[j] = tmZ V b m j := by simp [tzl]

theorem fillk (n k : Nat) (cs : List Int) (d : Int) (hd : cs.length = k) (hk : k < n) : (cs ++ List.replicate (n - k) (0 : Int)).set k d = (cs ++ [d]) ++ List.replicate (n - (k + 1)) 0 := frontfill n k cs d hd hk

/-- What StepsSpread answers. -/
def okSS (V b m : Int) : Bool := okSp V b && okM m
abbrev OK_StepsSpread (V b m : Int) : Bool := okSS V b m
def LF_StepsSpread (V b m : Int) : List Int := if okSS V b m = true then sprN V.toNat b m.toNat (cnN V.toNat b) else []
theorem okSS_yes {V b m : Int} (h1 : okSp V b = true) (h2 : okM m = true) : okSS V b m = true := by unfold okSS; rw [h1, h2]; rfl
theorem okSS_no1 {V b m : Int} (h1 : okSp V b = false) : okSS V b m = false := by unfold okSS; rw [h1]; rfl
theorem okSS_no2 {V b m : Int} (h1 : okM m = false) : okSS V b m = false := by unfold okSS; rw [h1]; simp
theorem LFS_yes {V b m : Int} (h : okSS V b m = true) : LF_StepsSpread V b m = sprN V.toNat b m.toNat (cnN V.toNat b) := if_pos h
theorem LFS_no {V b m : Int} (h : okSS V b m = false) : LF_StepsSpread V b m = [] := if_neg (by rw [h]; simp)

theorem tmZ_cases (V : Nat) (b : Int) (m i : Nat) : (tmZ V b m i = -1 ∧ ixT m (tmW V b m i) = m + 1) ∨ (∃ k : Nat, tmZ V b m i = (k : Int) ∧ ixT m (tmW V b m i) = k ∧ k ≤ m) := by
  unfold tmZ
  cases h : tmW V b m i with
  | none => exact .inl ⟨rfl, rfl⟩
  | some k => exact .inr ⟨k, rfl, rfl, rvT_le h⟩

end Go.Proofs.Ytamibonkbpppmaa
