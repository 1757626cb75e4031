/-
  Answers: happy numbers.
-/
import Derived.Test.YtnniiobiedfmoaaUL
namespace Go.Proofs.Ytnniiobiedfmoaa
open Go.RowKit
set_option linter.unusedVariables false
set_option linter.unusedSimpArgs false
set_option maxRecDepth 100000

/-- Is a number happy? -/
def hap (b x : Nat) : Bool := endOf (ps b 2) PM x == 1

theorem run_zero (b : Nat) (M : Nat) (hM : 1 ≤ M) : run (ps b 2) M 0 = [0] := by
  have h0 : ps b 2 0 = 0 := ps_zero b 2
  have hit : ∀ k, it (ps b 2) k 0 = 0 := by
    intro k
    induction k with
    | zero => rfl
    | succ k ih => show ps b 2 (it (ps b 2) k 0) = 0; rw [ih, h0]
  obtain ⟨s1, s2, s3, s4, s5, s6⟩ := rl_spec (f := ps b 2) (M := M) (x := 0) (fun k => by rw [hit]; omega)
  have hr : rl (ps b 2) M 0 = 1 := by
    by_cases h : 1 < rl (ps b 2) M 0
    · exact absurd (by rw [hit, hit]) (s6 0 1 (by omega) h)
    · omega
  unfold run
  rw [hr]
  rfl

theorem hap_zero (b : Nat) : hap b 0 = false := by
  unfold hap endOf
  rw [run_zero b PM (by decide)]
  have ht : tl (ps b 2) PM 0 = 0 := by
    have hit : ∀ k, it (ps b 2) k 0 = 0 := by
      intro k
      induction k with
      | zero => rfl
      | succ k ih => show ps b 2 (it (ps b 2) k 0) = 0; rw [ih, ps_zero]
    obtain ⟨s1, s2, s3, s4, s5, s6⟩ := rl_spec (f := ps b 2) (M := PM) (x := 0) (fun k => by rw [hit]; decide)
    have h1 := run_len (ps b 2) PM 0
    rw [run_zero b PM (by decide)] at h1
    simp at h1
    omega
  rw [ht]
  rfl

def OKH (n b : Int) : Bool := decide (Num n ∧ Bas b)
def V_IsHappy (n b : Int) : Bool := OKH n b && hap b.toNat n.toNat
abbrev R_IsHappy (n b : Int) : Value := .tuple #[.bool (V_IsHappy n b), .bool (OKH n b)]

theorem okh_cases (n b : Int) : (OKH n b = true ∧ ∃ N B : Nat, n = (N : Int) ∧ b = (B : Int) ∧ N ≤ 1000000000000 ∧ 2 ≤ B ∧ B ≤ 16) ∨ OKH n b = false := by
  cases h : OKH n b
  · exact .inr rfl
  · obtain ⟨h1, h2⟩ := of_decide_eq_true h
    obtain ⟨h1a, h1b⟩ := h1
    obtain ⟨h2a, h2b⟩ := h2
    exact .inl ⟨rfl, n.toNat, b.toNat, by omega, by omega, by omega, by omega, by omega⟩

theorem okh_yes {N B : Nat} (h1 : N ≤ 1000000000000) (h2 : 2 ≤ B) (h3 : B ≤ 16) : decide (Num (N : Int) ∧ Bas (B : Int)) = true := decide_eq_true ⟨⟨by omega, by omega⟩, by omega, by omega⟩

theorem happy_ends (n b : Int) : OK3 n b 2 4 = OKH n b := by
  unfold OK3 OKH
  have h : Pow 2 4 := ⟨by omega, by omega⟩
  by_cases h1 : Num n ∧ Bas b
  · rw [decide_eq_true h1, decide_eq_true (p := Num n ∧ Bas b ∧ Pow 2 4) ⟨h1.1, h1.2, h⟩]
  · rw [decide_eq_false h1, decide_eq_false (p := Num n ∧ Bas b ∧ Pow 2 4) (fun h2 => h1 ⟨h2.1, h2.2.1⟩)]

/-- The happy numbers below k. -/
def hapTo (b k : Nat) : List Int := ((List.range k).filter (hap b)).map fun (x : Nat) => (x : Int)
theorem hapTo_succ (b k : Nat) : hapTo b (k + 1) = if hap b k = true then hapTo b k ++ [(k : Int)] else hapTo b k := by
  unfold hapTo
  rw [List.range_succ, List.filter_append]
  by_cases h : hap b k = true
  · simp [h]
  · simp [h]
theorem hapTo_len (b k : Nat) : (hapTo b k).length ≤ k := by
  unfold hapTo
  rw [List.length_map]
  have := List.length_filter_le (hap b) (List.range k)
  simpa using this
theorem hapTo_one (b : Nat) : hapTo b 1 = [] := by
  rw [hapTo_succ, hap_zero]; rfl

def OKU (m b : Int) : Bool := decide ((0 ≤ m ∧ m ≤ 2000) ∧ Bas b)
def LF_HappyUpTo (m b : Int) : List Int := if OKU m b = true then hapTo b.toNat (m.toNat + 1) else []
theorem LF_HappyUpTo_len (m b : Int) : (LF_HappyUpTo m b).length ≤ 2000000 := by
  unfold LF_HappyUpTo
  split
  · rename_i h
    obtain ⟨h1, h2⟩ := of_decide_eq_true h
    have := hapTo_len b.toNat (m.toNat + 1)
    omega
  · simp

end Go.Proofs.Ytnniiobiedfmoaa
