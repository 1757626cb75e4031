/-
  Answers: runs of power sums, their tails and ends, happy numbers.
-/
import Derived.Test.YtjfcbelbpgmokaaUK
namespace Go.Proofs.Ytjfcbelbpgmokaa
open Go.RowKit
set_option linter.unusedVariables false
set_option linter.unusedSimpArgs false
set_option maxRecDepth 100000

def LF_PowerRun (n b p : Int) : List Int := if OK3 n b p 4 = true then run (ps b.toNat p.toNat) PM n.toNat else []
def VT_PowerTail (n b p : Int) : Int := if OK3 n b p 4 = true then ((tl (ps b.toNat p.toNat) PM n.toNat : Nat) : Int) else 0
def VC_PowerTail (n b p : Int) : Int := if OK3 n b p 4 = true then ((rl (ps b.toNat p.toNat) PM n.toNat - tl (ps b.toNat p.toNat) PM n.toNat : Nat) : Int) else 0
abbrev R_PowerTail (n b p : Int) : Value := .tuple #[.int .i64 (VT_PowerTail n b p), .int .i64 (VC_PowerTail n b p), .bool (OK3 n b p 4)]
def V_EndsIn (n b p : Int) : Int := if OK3 n b p 4 = true then endOf (ps b.toNat p.toNat) PM n.toNat else 0
abbrev R_EndsIn (n b p : Int) : Value := .tuple #[.int .i64 (V_EndsIn n b p), .bool (OK3 n b p 4)]

theorem LF_PowerRun_len (n b p : Int) : (LF_PowerRun n b p).length ≤ 2000000 := by
  unfold LF_PowerRun
  split
  · rename_i h
    obtain ⟨h1, h2, h3⟩ := of_decide_eq_true h
    obtain ⟨h1a, h1b⟩ := h1
    obtain ⟨h2a, h2b⟩ := h2
    obtain ⟨h3a, h3b⟩ := h3
    rw [run_len]
    have := (rl_spec (it_ps (b := b.toNat) (p := p.toNat) (x := n.toNat) (by omega) (by omega) (by omega) (by omega))).2.1
    unfold PM at this ⊢
    omega
  · simp

theorem ok3_cases (n b p : Int) : (OK3 n b p 4 = true ∧ ∃ N B P : Nat, n = (N : Int) ∧ b = (B : Int) ∧ p = (P : Int) ∧ N ≤ 1000000000000 ∧ 2 ≤ B ∧ B ≤ 16 ∧ 1 ≤ P ∧ P ≤ 4) ∨ OK3 n b p 4 = false := by
  cases h : OK3 n b p 4
  · exact .inr rfl
  · obtain ⟨h1, h2, h3⟩ := of_decide_eq_true h
    obtain ⟨h1a, h1b⟩ := h1
    obtain ⟨h2a, h2b⟩ := h2
    obtain ⟨h3a, h3b⟩ := h3
    exact .inl ⟨rfl, n.toNat, b.toNat, p.toNat, by omega, by omega, by omega, by omega, by omega, by omega, by omega, by omega⟩

theorem asked_yes {N B P : Nat} (h1 : N ≤ 1000000000000) (h2 : 2 ≤ B) (h3 : B ≤ 16) (h4 : 1 ≤ P) (h5 : P ≤ 4) : decide (Num (N : Int) ∧ Bas (B : Int)) = true ∧ decide (Pow (P : Int) 4) = true :=
  ⟨decide_eq_true ⟨⟨by omega, by omega⟩, by omega, by omega⟩, decide_eq_true ⟨by omega, by omega⟩⟩

/-- Who may not ask, in the model's two tests. -/
theorem asked_no {n b p : Int} (h : OK3 n b p 4 = false) : decide (Num n ∧ Bas b) = false ∨ (decide (Num n ∧ Bas b) = true ∧ decide (Pow p 4) = false) := by
  by_cases h1 : Num n ∧ Bas b
  · refine .inr ⟨decide_eq_true h1, decide_eq_false fun h2 => ?_⟩
    exact of_decide_eq_false h ⟨h1.1, h1.2, h2⟩
  · exact .inl (decide_eq_false h1)

theorem impl_EndsIn (n b p : Int) (w : World) :
    Calls Try.prog 27 #[.int .i64 n, .int .i64 b, .int .i64 p] w fun e w' => e = .returned (R_EndsIn n b p) ∧ Below w.heap.size w w' := by
  rcases ok3_cases n b p with ⟨hok, N, B, P, rfl, rfl, rfl, hN, hB, hB', hP, hP'⟩ | hn
  · have HV := (show V_EndsIn (N : Int) (B : Int) (P : Int) = endOf (ps B P) PM N by unfold V_EndsIn; rw [if_pos hok]; rfl)
    refine (ends_yes N B P w hN hB hB' hP hP').mono ?_
    rintro e w1 ⟨rfl, hb1⟩
    exact ⟨by unfold R_EndsIn; rw [hok, HV], hb1⟩
  · have HO := Lib.hid hn
    have HV := Lib.hid (show V_EndsIn n b p = 0 by unfold V_EndsIn; rw [hn]; rfl)
    clear hn
    go_enter Try.func27, Try.ntmps27
    go_wp2_with (go_at_call 40; refine (findRun_no n b p _ HO.out).mono ?_; rintro e w1 ⟨rfl, rfl⟩)
    go_ret2
    exact ⟨by unfold R_EndsIn; rw [HO.out, HV.out]; rfl, Below.refl _ _⟩

end Go.Proofs.Ytjfcbelbpgmokaa
