/-
  Products, reversed digits.
-/
import Derived.Test.YtnggfcopndcppaaC
import Derived.Test.YtnggfcopndcppaaE
namespace Go.Proofs.Ytnggfcopndcppaa
open Go.RowKit
set_option linter.unusedVariables false
set_option linter.unusedSimpArgs false

/-- What is left of a list, from the end on, in the other order. -/
theorem back_step (xs : List Int) (j : Nat) (h : j < xs.length) : (xs.drop j).reverse = (xs.drop (j + 1)).reverse ++ [xs[j]] := by
  rw [drop_cons xs j h, List.reverse_cons]

theorem dgBack_any (v : Value) (xs : List Int) (w : World) (h : Sl w v xs) (hl : xs.length ≤ 2000000) :
    Calls Try.prog 54 #[v] w fun e w' => ∃ u, e = .returned u ∧ Rd w' w.heap.size u xs.reverse ∧ Below w.heap.size w w' := by
  obtain ⟨a, cap, rfl, hx⟩ := h
  have HX := Lib.hid hx
  clear hx
  go_enter Try.func54, Try.ntmps54
  go_wp2
  go_loopw [3, 4] (fun o i wr => ∃ (j : Nat) (out : List Int), j ≤ xs.length ∧ i = .int .i64 ((j : Int) - 1) ∧ Rd wr w.heap.size o out ∧ Below w.heap.size w wr ∧ out = (xs.drop j).reverse) (fun _ i _ => (intOf i + 1).toNat)
  case atStart => exact ⟨xs.length, [], Nat.le_refl _, rfl, Rd.nil _ _, Below.refl _ _, by simp⟩
  case round =>
    obtain ⟨j, out, hj, rfl, hr, hb, ho⟩ := hrel
    have HR := Lib.hid hr
    have HB := Lib.hid hb
    have HO := Lib.hid ho
    have hol : out.length ≤ 2000000 := by rw [ho]; simp; omega
    clear hr hb ho
    by_cases hpos : 0 < j
    · obtain ⟨i, hi⟩ : ∃ i, i + 1 = j := ⟨j - 1, by omega⟩
      subst hi
      have hlt : i < xs.length := by omega
      rcases HX.out with hx | ⟨b, off, rfl, hbl, hc⟩
      · rw [hx] at hlt; simp at hlt
      have hcell : wr.cell? ⟨b, off + i, none⟩ = some (.int .i64 xs[i]) := (HB.out.cell (p := ⟨b, off + i, none⟩) hbl).trans (hc i hlt)
      have hsz := HB.out.size
      have hst := Lib.hid (back_step xs i hlt)
      clear hc
      go_wp2_with (at_builtin; refine wpList_appR rfl _ _ rfl w.heap.size w.heap.size _ _ out [xs[i]] rfl rfl (HR.out.alloc _) (Rd.litB _ _ _ (by omega)) (by simp; omega) (by simp; omega) ?_; intro v1 w1 hr1 hg1 hb1)
      have HR1 := Lib.hid hr1
      have HB1 := Lib.hid (((HB.out.alloc (by omega) _).trans hb1))
      clear hr1 hg1 hb1
      go_wp2
      go_roundw
      case rel => exact ⟨i, _, by omega, by go_num, HR1.out, HB1.out, by rw [hst.out, HO.out]⟩
      case measure => (simp [intOf]; try omega)
    · obtain rfl : j = 0 := by omega
      go_wp2
      go_ret
      exact ⟨_, rfl, by have := HO.out; rw [List.drop_zero] at this; rw [← this]; exact HR.out, HB.out⟩

theorem rev_all {b n : Int} (h : ∀ x ∈ dgs b n, 0 ≤ x ∧ x ≤ b - 1) : ∀ x ∈ (dgs b n).reverse, 0 ≤ x ∧ x ≤ b - 1 := fun x hx => h x (List.mem_reverse.1 hx)

end Go.Proofs.Ytnggfcopndcppaa
