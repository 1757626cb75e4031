/-
  Sums of divisors: who is a number, the model's factors.
-/
import Derived.Test.Ytgiabadkbfbilab8C
import Derived.Test.YtgiabadkbfbilabK
import Derived.Test.YtgiabadkbfbilabA
import Derived.Deep.RegionHeld3
import Derived.BigRegion
namespace Go.Proofs.Ytgiabadkbfbilab
open Go.RowKit
set_option linter.unusedVariables false
set_option linter.unusedSimpArgs false
set_option maxRecDepth 100000

theorem al_below (w : World) (o : Obj) : Below w.heap.size w (w.alloc o) := (Below.refl _ _).alloc (Nat.le_refl _) o
theorem alloc_below (w : World) (o : Obj) : Below w.heap.size w (w.alloc o) := (Below.refl _ _).alloc (Nat.le_refl _) o
theorem addr_add (g o j : Nat) : (⟨g, o, none⟩ : Addr).add j = ⟨g, o + j, none⟩ := by
  unfold Addr.add
  split <;> simp_all
/-- A cell that can be read stays where nothing below is written. -/
theorem Below.keeps_cell {w w' : World} (h : Below w.heap.size w w') {a : Addr} {u : Value} (hc : w.cell? a = some u) : w'.cell? a = some u := by
  have hlt : a.block < w.heap.size := by
    by_cases hl : a.block < w.heap.size
    · exact hl
    · unfold World.cell? at hc
      simp [Array.getElem?_eq_none (Nat.le_of_not_lt hl)] at hc
  rw [h.cell (p := a) hlt]
  exact hc

theorem apart_sym2 {u v : Value} (h : u.ownBlock = none ∨ u.ownBlock ≠ v.ownBlock) : v.ownBlock = none ∨ v.ownBlock ≠ u.ownBlock := by
  cases hv : v.ownBlock with
  | none => exact .inl rfl
  | some b =>
    right
    rcases h with h | h
    · rw [h]; simp
    · rw [hv] at h; exact fun e => h e.symm

def lenOf : Value → Nat
  | .slice _ n _ => n
  | _ => 0
theorem lenOf_rd {w : World} {B : Nat} {v : Value} {xs : List Int} (h : Rd w B v xs) : lenOf v = xs.length := by
  rcases h.cases with ⟨rfl, rfl⟩ | ⟨g, cap, rfl, _⟩ <;> rfl

theorem dv_yes {n : Int} (h1 : 1 ≤ n) (h2 : n ≤ 1000000000) : decide (Dv n) = true := decide_eq_true (p := Dv n) ⟨h1, h2⟩
theorem dv_no {n : Int} (h : ¬ (1 ≤ n ∧ n ≤ 1000000000)) : decide (Dv n) = false := decide_eq_false (p := Dv n) h
theorem tm_yes {n : Int} (h1 : 1 ≤ n) (h2 : n ≤ 60) : decide (Tm n) = true := decide_eq_true (p := Tm n) ⟨h1, h2⟩
theorem tm_no {n : Int} (h : ¬ (1 ≤ n ∧ n ≤ 60)) : decide (Tm n) = false := decide_eq_false (p := Tm n) h

theorem root_bd {y x : Int} (h0 : 0 ≤ y) (h : y * y ≤ x) (hx : x ≤ 1000000000) : y ≤ 31622 := by
  by_cases hy : y ≤ 31622
  · exact hy
  · have h1 : 31623 ≤ y := by omega
    have := Int.mul_le_mul h1 h1 (by omega) h0
    omega
theorem sq_in {y : Int} (h0 : 2 ≤ y) (h : y ≤ 31700) : 4 ≤ y * y ∧ y * y ≤ 1004890000 := by
  have h1 := Int.mul_le_mul h0 h0 (by omega) (by omega)
  have h2 := Int.mul_le_mul h h (by omega) (by omega)
  omega

theorem flt_step {y x : Int} (hy : 2 ≤ y) (h : y * y ≤ x) : flt (pws y x) = List.replicate (tms y x) y ++ flt (pws (y + 1) (cof y x)) := by
  by_cases ht : 0 < tms y x
  · rw [pws_hit hy h ht, flt]
  · rw [pws_miss hy h (by omega), show tms y x = 0 by omega]; rfl
theorem rep_snoc (pre r : List Int) (y : Int) (t : Nat) : pre ++ (List.replicate (t + 1) y ++ r) = (pre ++ [y]) ++ (List.replicate t y ++ r) := by
  rw [List.replicate_succ]; simp
theorem len_part {pre r X : List Int} (h : pre ++ r = X) : pre.length ≤ X.length := by rw [← h]; simp

theorem dvFactors_any (n : Int) (w : World) (hn : Dv n) :
    Calls Try.prog 129 #[.int .i64 n] w fun e w' => ∃ v, e = .returned v ∧ Rd w' w.heap.size v (fac n) ∧ Below w.heap.size w w' := by
  have HF := Lib.hid (fac_bd (n := n) (by have := hn.1; omega) hn.2)
  obtain ⟨X, hX⟩ : ∃ X, X = fac n := ⟨_, rfl⟩
  have HX := Lib.hid (show [] ++ flt (pws 2 n) = X by rw [hX]; rfl)
  rw [← hX] at HF ⊢
  have HL := Lib.hid HF.out.1
  clear hX HF
  obtain ⟨n0, n1⟩ := hn
  go_enter Try.func129, Try.ntmps129
  go_wp2
  go_loopw [0, 3, 4] (fun i o p wr => ∃ (x y : Int) (pre : List Int), i = .int .i64 x ∧ p = .int .i64 y ∧ 1 ≤ x ∧ x ≤ 1000000000 ∧ 2 ≤ y ∧ y ≤ 31700 ∧ Rd wr w.heap.size o pre ∧ Hid (pre ++ flt (pws y x) = X) ∧ Below w.heap.size w wr) (fun i _ p _ => (intOf i - intOf p).toNat)
  case atStart => exact ⟨n, 2, [], rfl, rfl, n0, n1, by omega, by omega, Rd.nil _ _, Lib.hid HX.out, Below.refl _ _⟩
  case round =>
    obtain ⟨x, y, pre, rfl, rfl, x0, x1, y0, y1, hr, HE, hbl⟩ := hrel
    have HR := Lib.hid hr
    have HB := Lib.hid hbl
    clear hr hbl
    obtain ⟨q0, q1⟩ := sq_in y0 y1
    by_cases hlt : y * y ≤ x
    · have y2 := root_bd (by omega) hlt x1
      have yx := sq_less y0 hlt
      have HS := Lib.hid (flt_step y0 hlt)
      rename World => wo
      go_wp2
      go_loopw [0, 3] (fun i o wr => ∃ (z : Int) (pr : List Int), i = .int .i64 z ∧ 1 ≤ z ∧ z ≤ x ∧ Rd wr w.heap.size o pr ∧ Hid (pr ++ (List.replicate (tms y z) y ++ flt (pws (y + 1) (cof y z))) = X) ∧ Below w.heap.size w wr) (fun i _ _ => (intOf i).toNat)
      case atStart => exact ⟨x, pre, rfl, x0, Int.le_refl _, HR.out, Lib.hid (by rw [← HS.out]; exact HE.out), HB.out⟩
      case round =>
        obtain ⟨z, pr, rfl, z0, z1, hr2, HE2, hbl2⟩ := hrel
        have HR2 := Lib.hid hr2
        have HB2 := Lib.hid hbl2
        clear hr2 hbl2
        by_cases hz : z % y = 0
        · have HC := Lib.hid (cof_step y0 (by omega) hz)
          have HT := Lib.hid (tms_step y0 (by omega) hz)
          have d1 := quo_pos y0 (by omega) hz
          have d2 := quo_less y0 (show 0 < z by omega)
          have HLP := Lib.hid (len_part HE2.out)
          have HE3 := Lib.hid (show (pr ++ [y]) ++ (List.replicate (tms y (z / y)) y ++ flt (pws (y + 1) (cof y (z / y)))) = X by rw [← rep_snoc, ← HT.out, ← HC.out]; exact HE2.out)
          go_wp2_with (at_builtin; refine wpList_appR rfl _ _ rfl w.heap.size w.heap.size _ _ pr [y] rfl rfl (HR2.out.alloc _) (Rd.litB _ _ _ HB2.out.size) (by have := HLP.out; have := HL.out; simp; omega) (by have := HB2.out.size; simp; omega) ?_; intro v1 w2 hr1 hg1 hb2; have HR3 := Lib.hid hr1; have HB3 := Lib.hid ((HB2.out.alloc HB2.out.size _).trans hb2); clear hr1 hg1 hb2)
          go_roundw
          case rel => exact ⟨z / y, pr ++ [y], by go_num, by omega, by omega, HR3.out, HE3, HB3.out⟩
          case measure => simp [intOf]; omega
        · have HC := Lib.hid (cof_end (d := y) hz)
          have HT := Lib.hid (tms_end (d := y) hz)
          have HE3 := Lib.hid (show pr ++ flt (pws (y + 1) z) = X by have := HE2.out; rw [HT.out, HC.out] at this; exact this)
          go_wp2
          go_roundw
          case rel => exact ⟨z, y + 1, pr, rfl, by go_num, z0, by omega, by omega, by omega, HR2.out, HE3, HB2.out⟩
          case measure => simp [intOf]; omega
    · by_cases h1 : 1 < x
      · have HE3 := Lib.hid (show pre ++ [x] = X by have := HE.out; rw [pws_last hlt h1] at this; exact this)
        have HLP := Lib.hid (len_part HE.out)
        go_wp2_with (at_builtin; refine wpList_appR rfl _ _ rfl w.heap.size w.heap.size _ _ pre [x] rfl rfl (HR.out.alloc _) (Rd.litB _ _ _ HB.out.size) (by have := HLP.out; have := HL.out; simp; omega) (by have := HB.out.size; simp; omega) ?_; intro v1 w2 hr1 hg1 hb2; have HR3 := Lib.hid hr1; have HB3 := Lib.hid ((HB.out.alloc HB.out.size _).trans hb2); clear hr1 hg1 hb2)
        go_ret
        exact ⟨_, rfl, by rw [← HE3.out]; exact HR3.out, HB3.out⟩
      · have HE3 := Lib.hid (show pre = X by have := HE.out; rw [pws_none hlt h1] at this; simpa [flt] using this)
        go_wp2
        go_ret
        exact ⟨_, rfl, by rw [← HE3.out]; exact HR.out, HB.out⟩

end Go.Proofs.Ytgiabadkbfbilab
