/-
  Choices by a cursor with what is known of them: elements of a list of constants, numbers in range, bases.
-/
import Derived.Test.Ytnggfcopndcppaa0G
namespace Go.Proofs.Ytnggfcopndcppaa
open Go.RowKit
set_option linter.unusedVariables false
set_option linter.unusedSimpArgs false
set_option maxRecDepth 100000

/-- What is chosen is one of the list. -/
theorem amongM (g : Nat) (v : Value) (xs : List Int) (K : Nat) (ys : List Int) (w : World) (h : Cu w g v xs K) (hK : K ≤ 1000000) (h1 : 1 ≤ ys.length) (h2 : ys.length ≤ 1000) :
    Calls Try.prog 70 #[.pointer (some ⟨g, 0, none⟩), .slice (some ⟨w.heap.size, 0, none⟩) ys.length ys.length] (w.alloc (.cells (ys.map (Value.int .i64)).toArray 3)) fun e w' => ∃ x : Int, e = .returned (.int .i64 x) ∧ x ∈ ys ∧ Cu w' g v xs (K + 2) ∧ w.grownBy w' (some g) := by
  have HG := Lib.hid (grown_alloc w (.cells (ys.map (Value.int .i64)).toArray 3) (some g))
  have HY := Lib.hid (rd_consts w ys h2)
  have HB := Lib.hid (show ¬ w.heap.size = g from fun e => by have := h.lt; omega)
  have HC := Lib.hid (h.alloc (.cells (ys.map (Value.int .i64)).toArray 3))
  obtain ⟨b, hb⟩ : ∃ b, b = w.heap.size := ⟨_, rfl⟩
  obtain ⟨w1, hw1⟩ : ∃ w1, w1 = w.alloc (.cells (ys.map (Value.int .i64)).toArray 3) := ⟨_, rfl⟩
  rw [← hb] at HY HB
  rw [← hw1] at HG HY HC
  rw [← hb, ← hw1]
  have HP := Lib.hid (pick_any g v xs K (ys.length : Int) w1 HC.out hK (by omega) (by omega))
  obtain ⟨L, hL⟩ : ∃ L, L = ys.length := ⟨_, rfl⟩
  rw [← hL] at HP HY h1 h2 ⊢
  have HLL := Lib.hid hL
  clear h hL hb hw1
  go_enter Try.func70, Try.ntmps70
  go_wp2_with fail
  refine HP.out.mono ?_
  rintro e w2 ⟨x, rfl, x0, x1, hc, hg⟩
  have C1 := Lib.hid hc
  have G1 := Lib.hid (grown_trans HG.out hg)
  obtain ⟨X, rfl⟩ : ∃ X : Nat, x = (X : Int) := ⟨x.toNat, by omega⟩
  have hX : X < L := by omega
  have hXy : X < ys.length := by rw [← HLL.out]; exact hX
  have hcell : w2.cell? ⟨b, X, none⟩ = some (.int .i64 ys[X]) := by
    have hr : Rd w2 _ (.slice (some ⟨b, 0, none⟩) L L) ys := HY.out.grown hg (.inr (fun e => HB.out (by simpa [Value.ownBlock] using e)))
    exact hr.at.2.2.2.2.1 X hXy
  have HM := Lib.hid (List.getElem_mem hXy)
  obtain ⟨y, hy⟩ : ∃ y, y = ys[X] := ⟨_, rfl⟩
  rw [← hy] at hcell HM
  clear hc hg hy x1 hXy
  go_wp2
  go_ret
  exact ⟨y, rfl, HM.out, C1.out, G1.out⟩

theorem grown_belowC {w w' : World} (hb : Below w.heap.size w w') (row : Option Nat) : w.grownBy w' row := ⟨hb.os, hb.tape, hb.output, hb.size, fun i hi _ => hb.block i hi⟩

theorem baseM (g : Nat) (v : Value) (xs : List Int) (K : Nat) (w : World) (h : Cu w g v xs K) (hK : K ≤ 900000) :
    Calls Try.prog 67 #[.pointer (some ⟨g, 0, none⟩)] w fun e w' => ∃ z : Int, e = .returned (.int .i64 z) ∧ 0 ≤ z ∧ z ≤ 17 ∧ Cu w' g v xs (K + 2) ∧ w.grownBy w' (some g) := by
  have HA := Lib.hid (amongM g v xs K [10, 10, 10, 2, 3, 5, 7, 16, 12, 10, 10, 16, 1, 17, 0] w h (by omega) (by simp) (by simp))
  have HM := Lib.hid (show ∀ z : Int, z ∈ [10, 10, 10, 2, 3, 5, 7, 16, 12, 10, 10, 16, 1, 17, (0 : Int)] → 0 ≤ z ∧ z ≤ 17 by decide)
  clear h
  go_enter Try.func67, Try.ntmps67
  go_wp2_with (go_at_call 70; refine HA.out.mono ?_; rintro e w2 ⟨z, rfl, hm, hc, hg⟩; have C2 := Lib.hid hc; have G2 := Lib.hid hg; have M2 := Lib.hid (HM.out z hm); clear hc hg hm)
  go_ret
  exact ⟨z, rfl, M2.out.1, M2.out.2, C2.out, G2.out⟩

end Go.Proofs.Ytnggfcopndcppaa
