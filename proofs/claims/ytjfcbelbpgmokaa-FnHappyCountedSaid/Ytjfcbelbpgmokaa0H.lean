/-
  Choices by a cursor with what is known of them: elements of a list of constants, numbers in range, bases.
-/
import Derived.Test.Ytjfcbelbpgmokaa0G
namespace Go.Proofs.Ytjfcbelbpgmokaa
open Go.RowKit
set_option linter.unusedVariables false
set_option linter.unusedSimpArgs false
set_option maxRecDepth 100000

/-- What is chosen is one of the list. -/
theorem amongM (g : Nat) (v : Value) (xs : List Int) (K : Nat) (ys : List Int) (w : World) (h : Cu w g v xs K) (hK : K ≤ 1000000) (h1 : 1 ≤ ys.length) (h2 : ys.length ≤ 1000) :
    Calls Try.prog 20 #[.pointer (some ⟨g, 0, none⟩), .slice (some ⟨w.heap.size, 0, none⟩) ys.length ys.length] (w.alloc (.cells (ys.map (Value.int .i64)).toArray 3)) fun e w' => ∃ x : Int, e = .returned (.int .i64 x) ∧ x ∈ ys ∧ Cu w' g v xs (K + 2) ∧ w.grownBy w' (some g) := by
  have HG := Lib.hid (grown_alloc w (.cells (ys.map (Value.int .i64)).toArray 3) (some g))
  have HY := Lib.hid (rd_consts w ys h2)
  have HB := Lib.hid (show ¬ w.heap.size = g from fun e => by have := h.lt; omega)
  have HC := Lib.hid (h.alloc (.cells (ys.map (Value.int .i64)).toArray 3))
  obtain ⟨b, hb⟩ : ∃ b, b = w.heap.size := ⟨_, rfl⟩
  obtain ⟨w1, hw1⟩ : ∃ w1, w1 = w.alloc (.cells (ys.map (Value.int .i64)).toArray 3) := ⟨_, rfl⟩
  rw [← hb] at HY HB
  rw [← hw1] at HG HY HC
  rw [← hb, ← hw1]
  have HP := Lib.hid (pick_any g v xs K (ys.length : Int) w1 HC.out hK (by omega) (by omega))
  obtain ⟨L, hL⟩ : ∃ L, L = ys.length := ⟨_, rfl⟩
  rw [← hL] at HP HY h1 h2 ⊢
  have HLL := Lib.hid hL
  clear h hL hb hw1
  go_enter Try.func20, Try.ntmps20
  go_wp2_with fail
  refine HP.out.mono ?_
  rintro e w2 ⟨x, rfl, x0, x1, hc, hg⟩
  have C1 := Lib.hid hc
  have G1 := Lib.hid (grown_trans HG.out hg)
  obtain ⟨X, rfl⟩ : ∃ X : Nat, x = (X : Int) := ⟨x.toNat, by omega⟩
  have hX : X < L := by omega
  have hXy : X < ys.length := by rw [← HLL.out]; exact hX
  have hcell : w2.cell? ⟨b, X, none⟩ = some (.int .i64 ys[X]) := by
    have hr : Rd w2 _ (.slice (some ⟨b, 0, none⟩) L L) ys := HY.out.grown hg (.inr (fun e => HB.out (by simpa [Value.ownBlock] using e)))
    exact hr.at.2.2.2.2.1 X hXy
  have HM := Lib.hid (List.getElem_mem hXy)
  obtain ⟨y, hy⟩ : ∃ y, y = ys[X] := ⟨_, rfl⟩
  rw [← hy] at hcell HM
  clear hc hg hy x1 hXy
  go_wp2
  go_ret
  exact ⟨y, rfl, HM.out, C1.out, G1.out⟩

theorem sureM (g : Nat) (v : Value) (xs : List Int) (K : Nat) (w : World) (h : Cu w g v xs K) (hK : K ≤ 950000) :
    Calls Try.prog 52 #[.pointer (some ⟨g, 0, none⟩)] w fun e w' => ∃ z : Int, e = .returned (.int .i64 z) ∧ 0 ≤ z ∧ z ≤ 1000000000000 ∧ Cu w' g v xs (K + 30) ∧ w.grownBy w' (some g) := by
  have HP8 := Lib.hid (fun (K : Nat) (w' : World) (hK : K ≤ 1000000) (h : Cu w' g v xs K) => pick_any g v xs K 8 w' h hK (by omega) (by omega))
  have HP2 := Lib.hid (fun (K : Nat) (w' : World) (hK : K ≤ 1000000) (h : Cu w' g v xs K) => pick_any g v xs K 256 w' h hK (by omega) (by omega))
  have HP11 := Lib.hid (fun (K : Nat) (w' : World) (hK : K ≤ 1000000) (h : Cu w' g v xs K) => pick_any g v xs K 11 w' h hK (by omega) (by omega))
  have HP10 := Lib.hid (fun (K : Nat) (w' : World) (hK : K ≤ 1000000) (h : Cu w' g v xs K) => pick_any g v xs K 10 w' h hK (by omega) (by omega))
  have HA2 := Lib.hid (fun (K : Nat) (w' : World) (hK : K ≤ 1000000) (h : Cu w' g v xs K) => amongM g v xs K [0, 1, 9, 10, 99, 100, 153, 370, 1000, 6174, 9999, 999999999999, 1000000000000] w' h hK (by simp) (by simp))
  have HM2 := Lib.hid (show ∀ z : Int, z ∈ [0, 1, 9, 10, 99, 100, 153, 370, 1000, 6174, 9999, 999999999999, (1000000000000 : Int)] → 0 ≤ z ∧ z ≤ 1000000000000 by decide)
  have H := Lib.hid h
  clear h
  go_enter Try.func52, Try.ntmps52
  go_wp2_with fail
  refine (HP8.out K _ (by omega) H.out).mono ?_
  rintro e w1 ⟨x, rfl, x0, x1, hc, hg⟩
  have C1 := Lib.hid hc
  have G1 := Lib.hid hg
  clear hc hg
  have hx7 : x ≤ 7 := by omega
  clear x1
  by_cases e0 : x = 0
  · subst e0
    go_wp2_with (go_at_call 37; refine (HP2.out _ _ (by omega) C1.out).mono ?_; rintro e w2 ⟨z, rfl, z0, z1, hc, hg⟩; have C2 := Lib.hid hc; have G2 := Lib.hid (grown_trans G1.out hg); clear hc hg)
    go_ret
    exact ⟨z, rfl, z0, by omega, C2.out.mono (by omega), G2.out⟩
  · have b0 : (x == 0) = false := beq_no e0
    by_cases e1 : x = 1
    · subst e1
      clear e0
      go_wp2_with (go_at_call 20; refine (HA2.out _ _ (by omega) C1.out).mono ?_; rintro e w2 ⟨z, rfl, hm, hc, hg⟩; have C2 := Lib.hid hc; have G2 := Lib.hid (grown_trans G1.out hg); have M2 := Lib.hid (HM2.out z hm); clear hc hg hm)
      go_ret
      exact ⟨z, rfl, M2.out.1, M2.out.2, C2.out.mono (by omega), G2.out⟩
    · have b1 : (x == 1) = false := beq_no e1
      by_cases e2 : x = 2
      · subst e2
        clear e0 e1
        go_wp2_with fail
        refine (HP2.out _ _ (by omega) C1.out).mono ?_
        rintro e w2 ⟨y, rfl, y0, y1, hc, hg⟩
        have C2 := Lib.hid hc
        have G2 := Lib.hid (grown_trans G1.out hg)
        clear hc hg
        go_wp2_with fail
        refine (HP2.out _ _ (by omega) C2.out).mono ?_
        rintro e w3 ⟨y', rfl, y0', y1', hc, hg⟩
        have C3 := Lib.hid hc
        have G3 := Lib.hid (grown_trans G2.out hg)
        clear hc hg
        have m0 : 0 ≤ y * y' := Int.mul_nonneg y0 y0'
        have m1 : y * y' ≤ 65536 := by
          have := Int.mul_le_mul (show y ≤ 255 by omega) (show y' ≤ 255 by omega) y0' (by omega)
          omega
        go_wp2
        go_ret
        exact ⟨_, rfl, m0, by omega, C3.out.mono (by omega), G3.out⟩
      · have b2 : (x == 2) = false := beq_no e2
        clear e0 e1 e2
        go_wp2_with fail
        refine (HP11.out _ _ (by omega) C1.out).mono ?_
        rintro e w2 ⟨y, rfl, y0, y1, hc, hg⟩
        have C2 := Lib.hid hc
        have G2 := Lib.hid (grown_trans G1.out hg)
        obtain ⟨Y, rfl⟩ : ∃ Y : Nat, y = (Y : Int) := ⟨y.toNat, by omega⟩
        have hY : Y ≤ 10 := by omega
        clear hc hg y1
        go_wp2
        go_loopw [3, 4] (fun n k wr => ∃ (z : Int) (j : Nat), n = .int .i64 z ∧ k = .int .i64 (j : Int) ∧ j ≤ 11 ∧ 0 ≤ z ∧ z + 1 ≤ ((10 ^ (11 - j) : Nat) : Int) ∧ Cu wr g v xs (K + 4 + 2 * (11 - j)) ∧ w.grownBy wr (some g)) (fun _ k _ => (intOf k).toNat)
        case atStart => exact ⟨0, Y + 1, rfl, by go_num, by omega, by omega, by have h1 : 0 < 10 ^ (11 - (Y + 1)) := Nat.pow_pos (by omega); omega, C2.out.mono (by omega), G2.out⟩
        case round =>
          obtain ⟨z, j, rfl, rfl, hj, hz0, hz1, hc, hg⟩ := hrel
          have C3 := Lib.hid hc
          have G3 := Lib.hid hg
          have hzz : z + 1 ≤ 100000000000 := by
            have h1 : 10 ^ (11 - j) ≤ 10 ^ 11 := Nat.pow_le_pow_right (by omega) (by omega)
            have h2 : (10 : Nat) ^ 11 = 100000000000 := by decide
            omega
          have HZ := Lib.hid hz1
          clear hc hg hz1
          by_cases hp : 0 < j
          · have hp2 : (0 : Int) < (j : Int) := by omega
            go_wp2_with (go_at_call 37; refine (HP10.out _ _ (by omega) C3.out).mono ?_; rintro e w4 ⟨z', rfl, z0', z1', hc, hg⟩; have C4 := Lib.hid hc; have G4 := Lib.hid (grown_trans G3.out hg); clear hc hg)
            go_roundw
            case rel =>
              refine ⟨_, j - 1, rfl, by go_num, by omega, by omega, ?_, C4.out.mono (by omega), G4.out⟩
              have e : 11 - (j - 1) = (11 - j) + 1 := by omega
              have h2 : 10 ^ ((11 - j) + 1) = 10 ^ (11 - j) * 10 := Nat.pow_succ 10 (11 - j)
              have := HZ.out
              rw [e, h2]
              omega
            case measure => simp [intOf]; omega
          · obtain rfl : j = 0 := by omega
            go_wp2
            go_ret
            exact ⟨z, rfl, hz0, by omega, C3.out.mono (by omega), G3.out⟩

theorem grown_belowC {w w' : World} (hb : Below w.heap.size w w') (row : Option Nat) : w.grownBy w' row := ⟨hb.os, hb.tape, hb.output, hb.size, fun i hi _ => hb.block i hi⟩

theorem baseM (g : Nat) (v : Value) (xs : List Int) (K : Nat) (w : World) (h : Cu w g v xs K) (hK : K ≤ 900000) :
    Calls Try.prog 29 #[.pointer (some ⟨g, 0, none⟩)] w fun e w' => ∃ z : Int, e = .returned (.int .i64 z) ∧ 0 ≤ z ∧ z ≤ 17 ∧ Cu w' g v xs (K + 2) ∧ w.grownBy w' (some g) := by
  have HA := Lib.hid (amongM g v xs K [10, 10, 10, 2, 3, 5, 7, 16, 12, 10, 10, 16, 1, 17, 0] w h (by omega) (by simp) (by simp))
  have HM := Lib.hid (show ∀ z : Int, z ∈ [10, 10, 10, 2, 3, 5, 7, 16, 12, 10, 10, 16, 1, 17, (0 : Int)] → 0 ≤ z ∧ z ≤ 17 by decide)
  clear h
  go_enter Try.func29, Try.ntmps29
  go_wp2_with (go_at_call 20; refine HA.out.mono ?_; rintro e w2 ⟨z, rfl, hm, hc, hg⟩; have C2 := Lib.hid hc; have G2 := Lib.hid hg; have M2 := Lib.hid (HM.out z hm); clear hc hg hm)
  go_ret
  exact ⟨z, rfl, M2.out.1, M2.out.2, C2.out, G2.out⟩

end Go.Proofs.Ytjfcbelbpgmokaa
