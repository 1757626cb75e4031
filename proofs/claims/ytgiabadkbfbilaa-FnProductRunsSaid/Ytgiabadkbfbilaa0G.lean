/-
  The numbers and bases that the laws draw in most chapters.
-/
import Derived.Test.Ytgiabadkbfbilaa0B
namespace Go.Proofs.Ytgiabadkbfbilaa
open Go.RowKit
set_option linter.unusedVariables false
set_option linter.unusedSimpArgs false
set_option maxRecDepth 100000

theorem base_any (g : Nat) (v : Value) (xs : List Int) (K : Nat) (w : World) (h : Cu w g v xs K) (hK : K ≤ 1000) :
    Calls Try.prog 89 #[.pointer (some ⟨g, 0, none⟩)] w fun e w' => ∃ z : Int, e = .returned (.int .i64 z) ∧ Cu w' g v xs (K + 2) ∧ w.grownBy w' (some g) := by
  have HA := Lib.hid (among_lit g v xs K [10, 10, 10, 2, 3, 5, 7, 16, 12, 10, 10, 16, 1, 17, 0] w h (by omega) (by simp) (by simp))
  clear h
  go_enter Try.func89, Try.ntmps89
  go_wp2_with (go_at_call 76; refine HA.out.mono ?_; rintro e w2 ⟨z, rfl, hc, hg⟩; have C2 := Lib.hid hc; have G2 := Lib.hid hg; clear hc hg)
  go_ret
  exact ⟨z, rfl, C2.out, G2.out⟩

theorem sureNumber_any (g : Nat) (v : Value) (xs : List Int) (K : Nat) (w : World) (h : Cu w g v xs K) (hK : K ≤ 1000) :
    Calls Try.prog 139 #[.pointer (some ⟨g, 0, none⟩)] w fun e w' => ∃ z : Int, e = .returned (.int .i64 z) ∧ Cu w' g v xs (K + 30) ∧ w.grownBy w' (some g) := by
  have HP8 := Lib.hid (fun (K : Nat) (w' : World) (hK : K ≤ 1000000) (h : Cu w' g v xs K) => pick_any g v xs K 8 w' h hK (by omega) (by omega))
  have HP2 := Lib.hid (fun (K : Nat) (w' : World) (hK : K ≤ 1000000) (h : Cu w' g v xs K) => pick_any g v xs K 256 w' h hK (by omega) (by omega))
  have HP11 := Lib.hid (fun (K : Nat) (w' : World) (hK : K ≤ 1000000) (h : Cu w' g v xs K) => pick_any g v xs K 11 w' h hK (by omega) (by omega))
  have HP10 := Lib.hid (fun (K : Nat) (w' : World) (hK : K ≤ 1000000) (h : Cu w' g v xs K) => pick_any g v xs K 10 w' h hK (by omega) (by omega))
  have HA2 := Lib.hid (fun (K : Nat) (w' : World) (hK : K ≤ 1000000) (h : Cu w' g v xs K) => among_lit g v xs K [0, 1, 9, 10, 99, 100, 153, 370, 1000, 6174, 9999, 999999999999, 1000000000000] w' h hK (by simp) (by simp))
  have H := Lib.hid h
  clear h
  go_enter Try.func139, Try.ntmps139
  go_wp2_with fail
  refine (HP8.out K _ (by omega) H.out).mono ?_
  rintro e w1 ⟨x, rfl, x0, x1, hc, hg⟩
  have C1 := Lib.hid hc
  have G1 := Lib.hid hg
  clear hc hg
  have hx7 : x ≤ 7 := by omega
  clear x1
  by_cases e0 : x = 0
  · subst e0
    go_wp2_with (go_at_call 77; refine (HP2.out _ _ (by omega) C1.out).mono ?_; rintro e w2 ⟨z, rfl, z0, z1, hc, hg⟩; have C2 := Lib.hid hc; have G2 := Lib.hid (grown_trans G1.out hg); clear hc hg)
    go_ret
    exact ⟨z, rfl, C2.out.mono (by omega), G2.out⟩
  · have b0 : (x == 0) = false := beq_no e0
    by_cases e1 : x = 1
    · subst e1
      clear e0
      go_wp2_with (go_at_call 76; refine (HA2.out _ _ (by omega) C1.out).mono ?_; rintro e w2 ⟨z, rfl, hc, hg⟩; have C2 := Lib.hid hc; have G2 := Lib.hid (grown_trans G1.out hg); clear hc hg)
      go_ret
      exact ⟨z, rfl, C2.out.mono (by omega), G2.out⟩
    · have b1 : (x == 1) = false := beq_no e1
      by_cases e2 : x = 2
      · subst e2
        clear e0 e1
        go_wp2_with fail
        refine (HP2.out _ _ (by omega) C1.out).mono ?_
        rintro e w2 ⟨y, rfl, y0, y1, hc, hg⟩
        have C2 := Lib.hid hc
        have G2 := Lib.hid (grown_trans G1.out hg)
        clear hc hg
        go_wp2_with fail
        refine (HP2.out _ _ (by omega) C2.out).mono ?_
        rintro e w3 ⟨y', rfl, y0', y1', hc, hg⟩
        have C3 := Lib.hid hc
        have G3 := Lib.hid (grown_trans G2.out hg)
        clear hc hg
        have m0 : 0 ≤ y * y' := Int.mul_nonneg y0 y0'
        have m1 : y * y' ≤ 65536 := by
          have := Int.mul_le_mul (show y ≤ 255 by omega) (show y' ≤ 255 by omega) y0' (by omega)
          omega
        go_wp2
        go_ret
        exact ⟨_, rfl, C3.out.mono (by omega), G3.out⟩
      · have b2 : (x == 2) = false := beq_no e2
        clear e0 e1 e2
        go_wp2_with fail
        refine (HP11.out _ _ (by omega) C1.out).mono ?_
        rintro e w2 ⟨y, rfl, y0, y1, hc, hg⟩
        have C2 := Lib.hid hc
        have G2 := Lib.hid (grown_trans G1.out hg)
        obtain ⟨Y, rfl⟩ : ∃ Y : Nat, y = (Y : Int) := ⟨y.toNat, by omega⟩
        have hY : Y ≤ 10 := by omega
        clear hc hg y1
        go_wp2
        go_loopw [3, 4] (fun n k wr => ∃ (z : Int) (j : Nat), n = .int .i64 z ∧ k = .int .i64 (j : Int) ∧ j ≤ 11 ∧ Cu wr g v xs (K + 4 + 2 * (11 - j)) ∧ w.grownBy wr (some g)) (fun _ k _ => (intOf k).toNat)
        case atStart => exact ⟨0, Y + 1, rfl, by go_num, by omega, C2.out.mono (by omega), G2.out⟩
        case round =>
          obtain ⟨z, j, rfl, rfl, hj, hc, hg⟩ := hrel
          have C3 := Lib.hid hc
          have G3 := Lib.hid hg
          clear hc hg
          by_cases hp : 0 < j
          · have hp2 : (0 : Int) < (j : Int) := by omega
            go_wp2_with (go_at_call 77; refine (HP10.out _ _ (by omega) C3.out).mono ?_; rintro e w4 ⟨z', rfl, z0', z1', hc, hg⟩; have C4 := Lib.hid hc; have G4 := Lib.hid (grown_trans G3.out hg); clear hc hg)
            go_roundw
            case rel => exact ⟨_, j - 1, rfl, by go_num, by omega, C4.out.mono (by omega), G4.out⟩
            case measure => simp [intOf]; omega
          · obtain rfl : j = 0 := by omega
            go_wp2
            go_ret
            exact ⟨z, rfl, C3.out.mono (by omega), G3.out⟩

theorem numberD_any (g : Nat) (v : Value) (xs : List Int) (K : Nat) (w : World) (h : Cu w g v xs K) (hK : K ≤ 900) :
    Calls Try.prog 88 #[.pointer (some ⟨g, 0, none⟩)] w fun e w' => ∃ z : Int, e = .returned (.int .i64 z) ∧ Cu w' g v xs (K + 32) ∧ w.grownBy w' (some g) := by
  have H1 := Lib.hid (one_any g v xs K 20 w h (by omega) (by omega) (by omega))
  clear h
  go_enter Try.func88, Try.ntmps88
  go_wp2_with fail
  refine H1.out.mono ?_
  rintro e w1 ⟨q, rfl, hc, hg⟩
  have C1 := Lib.hid hc
  have G1 := Lib.hid hg
  clear hc hg
  cases q
  · go_wp2_with (go_at_call 139; refine (sureNumber_any g v xs _ _ C1.out (by omega)).mono ?_; rintro e w2 ⟨z, rfl, hc, hg⟩; have C2 := Lib.hid hc; have G2 := Lib.hid (grown_trans G1.out hg); clear hc hg)
    go_ret
    exact ⟨z, rfl, C2.out.mono (by omega), G2.out⟩
  · go_wp2_with (go_at_call 76; refine (among_lit g v xs _ [-1, 1000000000001, 4611686018427387904, -4611686018427387904] _ C1.out (by omega) (by simp) (by simp)).mono ?_; rintro e w2 ⟨z, rfl, hc, hg⟩; have C2 := Lib.hid hc; have G2 := Lib.hid (grown_trans G1.out hg); clear hc hg)
    go_ret
    exact ⟨z, rfl, C2.out.mono (by omega), G2.out⟩

end Go.Proofs.Ytgiabadkbfbilaa
