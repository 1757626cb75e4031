/-
  Functions that make a slice: the copy of an argument; digits.
-/
import Derived.Test.YtnggfcopndcppaaW2
import Derived.Test.YtnggfcopndcppaaD
namespace Go.Proofs.Ytnggfcopndcppaa
open Go.RowKit
set_option linter.unusedVariables false
set_option linter.unusedSimpArgs false

theorem dgOf_any (n b : Int) (w : World) (h0 : 0 ≤ n) (h1 : n ≤ 1000000000000) (hb : 2 ≤ b) (hb' : b ≤ 16) :
    Calls Try.prog 76 #[.int .i64 n, .int .i64 b] w fun e w' => ∃ u, e = .returned u ∧ Rd w' w.heap.size u (dgs b n) ∧ Below w.heap.size w w' := by
  by_cases hz : n = 0
  · subst hz
    have hd := Lib.hid (show dgs b 0 = [0] by rw [dgs, revD_zero b hb]; rfl)
    go_enter Try.func76, Try.ntmps76
    go_wp2
    go_ret
    exact ⟨_, rfl, by rw [hd.out]; exact Rd.lit _ _, (Below.refl _ _).alloc (Nat.le_refl _) _⟩
  · have hnz := beq_no hz
    have hl := Lib.hid (revD_len40 b n hb h0 h1)
    have hn : 0 < n := by omega
    have hst := Lib.hid (show (lft b n).reverse ++ [] = dgs b n by rw [lft, if_neg hz, List.append_nil, dgs])
    clear hz
    go_enter Try.func76, Try.ntmps76
    go_wp2
    go_loopw [0, 5] (fun c o wr => ∃ (m : Int) (out : List Int), 0 ≤ m ∧ m ≤ 1000000000000 ∧ c = .int .i64 m ∧ Rd wr w.heap.size o out ∧ Below w.heap.size w wr ∧ (lft b m).reverse ++ out = dgs b n) (fun c _ _ => (intOf c).toNat)
    case atStart => exact ⟨n, [], by omega, by omega, rfl, Rd.nil _ _, Below.refl _ _, hst.out⟩
    case round =>
      obtain ⟨m, out, m0, m1, rfl, hr, hbl, heq⟩ := hrel
      have HR := Lib.hid hr
      have HB := Lib.hid hbl
      have HE := Lib.hid heq
      clear hr hbl heq
      have hol : out.length ≤ 40 := by
        have h2 := congrArg List.length HE.out
        have h3 := hl.out
        rw [dgs_len] at h2
        simp at h2
        omega
      by_cases hm : 0 < m
      · have hdv := div_half b m hb m0
        have hdl := Int.ediv_lt_of_lt_mul (a := m) (b := m) (c := b) (by omega) (by have := Int.mul_le_mul_of_nonneg_left hb (show (0:Int) ≤ m by omega); omega)
        have hmd := mod_bd b m hb
        have hls := Lib.hid (lft_step b m hb hm)
        have hsz := HB.out.size
        go_wp2_with (at_builtin; refine wpList_appR rfl _ _ rfl w.heap.size w.heap.size _ _ [m % b] out rfl rfl (Rd.litB _ _ _ (by omega)) (HR.out.alloc _) (by simp; omega) (by simp; omega) ?_; intro v1 w1 hr1 hg1 hb1)
        have HR1 := Lib.hid hr1
        have HB1 := Lib.hid (((HB.out.alloc (by omega) _).trans hb1))
        clear hr1 hg1 hb1
        go_wp2
        go_roundw
        case rel => exact ⟨m / b, m % b :: out, by omega, by omega, by go_num, HR1.out, HB1.out, by rw [← HE.out, hls.out]; simp⟩
        case measure => simp [intOf]; omega
      · obtain rfl : m = 0 := by omega
        go_wp2
        go_ret
        exact ⟨_, rfl, by rw [← HE.out]; exact HR.out, HB.out⟩

end Go.Proofs.Ytnggfcopndcppaa
