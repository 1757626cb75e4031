/-
  Sums of divisors: who is a number, the model's factors.
-/
import Derived.Test.Ytgiabadkbfbilaa8C
import Derived.Test.YtgiabadkbfbilaaK
import Derived.Test.YtgiabadkbfbilaaA
import Derived.Deep.RegionHeld3
import Derived.BigRegion
namespace Go.Proofs.Ytgiabadkbfbilaa
open Go.RowKit
set_option linter.unusedVariables false
set_option linter.unusedSimpArgs false
set_option maxRecDepth 100000

theorem al_below (w : World) (o : Obj) : Below w.heap.size w (w.alloc o) := (Below.refl _ _).alloc (Nat.le_refl _) o
theorem alloc_below (w : World) (o : Obj) : Below w.heap.size w (w.alloc o) := (Below.refl _ _).alloc (Nat.le_refl _) o
theorem addr_add (g o j : Nat) : (⟨g, o, none⟩ : Addr).add j = ⟨g, o + j, none⟩ := by
  unfold Addr.add
  split <;> simp_all
/-- A cell that can be read stays where nothing below is written. -/
theorem Below.keeps_cell {w w' : World} (h : Below w.heap.size w w') {a : Addr} {u : Value} (hc : w.cell? a = some u) : w'.cell? a = some u := by
  have hlt : a.block < w.heap.size := by
    by_cases hl : a.block < w.heap.size
    · exact hl
    · unfold World.cell? at hc
      simp [Array.getElem?_eq_none (Nat.le_of_not_lt hl)] at hc
  rw [h.cell (p := a) hlt]
  exact hc

theorem apart_sym2 {u v : Value} (h : u.ownBlock = none ∨ u.ownBlock ≠ v.ownBlock) : v.ownBlock = none ∨ v.ownBlock ≠ u.ownBlock := by
  cases hv : v.ownBlock with
  | none => exact .inl rfl
  | some b =>
    right
    rcases h with h | h
    · rw [h]; simp
    · rw [hv] at h; exact fun e => h e.symm

def lenOf : Value → Nat
  | .slice _ n _ => n
  | _ => 0
theorem lenOf_rd {w : World} {B : Nat} {v : Value} {xs : List Int} (h : Rd w B v xs) : lenOf v = xs.length := by
  rcases h.cases with ⟨rfl, rfl⟩ | ⟨g, cap, rfl, _⟩ <;> rfl

theorem dv_yes {n : Int} (h1 : 1 ≤ n) (h2 : n ≤ 1000000000) : decide (Dv n) = true := decide_eq_true (p := Dv n) ⟨h1, h2⟩
theorem dv_no {n : Int} (h : ¬ (1 ≤ n ∧ n ≤ 1000000000)) : decide (Dv n) = false := decide_eq_false (p := Dv n) h
theorem tm_yes {n : Int} (h1 : 1 ≤ n) (h2 : n ≤ 60) : decide (Tm n) = true := decide_eq_true (p := Tm n) ⟨h1, h2⟩
theorem tm_no {n : Int} (h : ¬ (1 ≤ n ∧ n ≤ 60)) : decide (Tm n) = false := decide_eq_false (p := Tm n) h

theorem root_bd {y x : Int} (h0 : 0 ≤ y) (h : y * y ≤ x) (hx : x ≤ 1000000000) : y ≤ 31622 := by
  by_cases hy : y ≤ 31622
  · exact hy
  · have h1 : 31623 ≤ y := by omega
    have := Int.mul_le_mul h1 h1 (by omega) h0
    omega
theorem sq_in {y : Int} (h0 : 2 ≤ y) (h : y ≤ 31700) : 4 ≤ y * y ∧ y * y ≤ 1004890000 := by
  have h1 := Int.mul_le_mul h0 h0 (by omega) (by omega)
  have h2 := Int.mul_le_mul h h (by omega) (by omega)
  omega

theorem flt_step {y x : Int} (hy : 2 ≤ y) (h : y * y ≤ x) : flt (pws y x) = List.replicate (tms y x) y ++ flt (pws (y + 1) (cof y x)) := by
  by_cases ht : 0 < tms y x
  · rw [pws_hit hy h ht, flt]
  · rw [pws_miss hy h (by omega), show tms y x = 0 by omega]; rfl
theorem rep_snoc (pre r : List Int) (y : Int) (t : Nat) : pre ++ (List.replicate (t + 1) y ++ r) = (pre ++ [y]) ++ (List.replicate t y ++ r) := by
  rw [List.replicate_succ]; simp
theorem len_part {pre r X : List Int} (h : pre ++ r = X) : pre.length ≤ X.length := by rw [← h]; simp

end Go.Proofs.Ytgiabadkbfbilaa
