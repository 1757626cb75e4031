/-
  Two slices held against each other: the program's and the model's tests.
-/
import Derived.Test.YtnggfcopndcppaaE
namespace Go.Proofs.Ytnggfcopndcppaa
open Go.RowKit
set_option linter.unusedVariables false
set_option linter.unusedSimpArgs false

theorem l1Same_any (v u : Value) (xs ys : List Int) (w : World) (hv : Sl w v xs) (hu : Sl w u ys) (hl : xs.length ≤ 2000000) (hl2 : ys.length ≤ 2000000) :
    Calls Try.prog 97 #[v, u] w fun e w' => e = .returned (.bool (decide (xs = ys))) ∧ Below w.heap.size w w' := by
  obtain ⟨a, cap, rfl, hx⟩ := hv
  obtain ⟨c, cap2, rfl, hy⟩ := hu
  have HX := Lib.hid hx
  have HY := Lib.hid hy
  clear hx hy
  by_cases hle : xs.length = ys.length
  · have HL := Lib.hid hle
    have hn : ((xs.length : Int) != (ys.length : Int)) = false := bne_no (by omega)
    have hn1 : xs.length ≤ ys.length := by omega
    have hn2 : ys.length ≤ xs.length := by omega
    clear hle
    go_enter Try.func97, Try.ntmps97
    go_wp2
    go_loopw [13] (fun i wr => ∃ k : Nat, k ≤ xs.length ∧ i = .int .i64 k ∧ xs.take k = ys.take k ∧ Below w.heap.size w wr) (fun i _ => xs.length - (intOf i).toNat)
    case atStart => exact ⟨0, Nat.zero_le _, rfl, rfl, Below.refl _ _⟩
    case round =>
      obtain ⟨k, hk, rfl, ht, hb⟩ := hrel
      have HT := Lib.hid ht
      have HB := Lib.hid hb
      clear ht hb
      by_cases hlt : k < xs.length
      · rcases HX.out with hx | ⟨b, off, rfl, hbl, hc⟩
        · rw [hx] at hlt; simp at hlt
        rcases HY.out with hy | ⟨b2, off2, rfl, hbl2, hc2⟩
        · have hy0 := congrArg List.length hy
          rw [List.length_nil] at hy0
          omega
        have hlt2 : k < ys.length := by omega
        have hcell : wr.cell? ⟨b, off + k, none⟩ = some (.int .i64 xs[k]) := (HB.out.cell (p := ⟨b, off + k, none⟩) hbl).trans (hc k hlt)
        have hcell2 : wr.cell? ⟨b2, off2 + k, none⟩ = some (.int .i64 ys[k]) := (HB.out.cell (p := ⟨b2, off2 + k, none⟩) hbl2).trans (hc2 k hlt2)
        clear hc hc2
        by_cases he : xs[k] = ys[k]
        · have HE := Lib.hid he
          have hbn : (xs[k] != ys[k]) = false := bne_no he
          clear he
          go_wp2
          go_region
          all_goals
            go_wp2
            go_roundw
            case rel => exact ⟨k + 1, by omega, by go_num, take_eq_snoc hlt hlt2 HT.out HE.out, HB.out.drew⟩
            case measure => simp [intOf]; omega
        · have HE := Lib.hid (eq_at_no hlt hlt2 he)
          have hbn : (xs[k] != ys[k]) = true := bne_yes he
          clear he
          go_wp2
          go_region
          all_goals
            go_wp2
            go_ret
            exact ⟨ret_bool HE.out.symm, HB.out.drew⟩
      · obtain rfl : k = xs.length := by omega
        go_wp2
        go_ret
        exact ⟨ret_bool (eq_all HL.out HT.out).symm, HB.out⟩
  · have HE := Lib.hid (eq_len_no hle)
    have hn : ((xs.length : Int) != (ys.length : Int)) = true := bne_yes (by omega)
    go_enter Try.func97, Try.ntmps97
    go_wp2
    go_ret
    exact ⟨ret_bool HE.out.symm, Below.refl _ _⟩

theorem equal_any (v u : Value) (xs ys : List Int) (w : World) (hv : Sl w v xs) (hu : Sl w u ys) (hl : xs.length ≤ 2000000) (hl2 : ys.length ≤ 2000000) :
    Calls Try.prog 95 #[v, u] w fun e w' => e = .returned (.bool (decide (xs = ys))) ∧ Below w.heap.size w w' := by
  obtain ⟨a, cap, rfl, hx⟩ := hv
  obtain ⟨c, cap2, rfl, hy⟩ := hu
  have HX := Lib.hid hx
  have HY := Lib.hid hy
  clear hx hy
  by_cases hle : xs.length = ys.length
  · have HL := Lib.hid hle
    have hn : ((xs.length : Int) != (ys.length : Int)) = false := bne_no (by omega)
    have hn1 : xs.length ≤ ys.length := by omega
    have hn2 : ys.length ≤ xs.length := by omega
    clear hle
    go_enter Try.func95, Try.ntmps95
    go_wp2
    go_loopw [13] (fun i wr => ∃ k : Nat, k ≤ xs.length ∧ i = .int .i64 k ∧ xs.take k = ys.take k ∧ Below w.heap.size w wr) (fun i _ => xs.length - (intOf i).toNat)
    case atStart => exact ⟨0, Nat.zero_le _, rfl, rfl, Below.refl _ _⟩
    case round =>
      obtain ⟨k, hk, rfl, ht, hb⟩ := hrel
      have HT := Lib.hid ht
      have HB := Lib.hid hb
      clear ht hb
      by_cases hlt : k < xs.length
      · rcases HX.out with hx | ⟨b, off, rfl, hbl, hc⟩
        · rw [hx] at hlt; simp at hlt
        rcases HY.out with hy | ⟨b2, off2, rfl, hbl2, hc2⟩
        · have hy0 := congrArg List.length hy
          rw [List.length_nil] at hy0
          omega
        have hlt2 : k < ys.length := by omega
        have hcell : wr.cell? ⟨b, off + k, none⟩ = some (.int .i64 xs[k]) := (HB.out.cell (p := ⟨b, off + k, none⟩) hbl).trans (hc k hlt)
        have hcell2 : wr.cell? ⟨b2, off2 + k, none⟩ = some (.int .i64 ys[k]) := (HB.out.cell (p := ⟨b2, off2 + k, none⟩) hbl2).trans (hc2 k hlt2)
        clear hc hc2
        by_cases he : xs[k] = ys[k]
        · have HE := Lib.hid he
          have hbn : (xs[k] != ys[k]) = false := bne_no he
          clear he
          go_wp2
          go_region
          all_goals
            go_wp2
            go_roundw
            case rel => exact ⟨k + 1, by omega, by go_num, take_eq_snoc hlt hlt2 HT.out HE.out, HB.out.drew⟩
            case measure => simp [intOf]; omega
        · have HE := Lib.hid (eq_at_no hlt hlt2 he)
          have hbn : (xs[k] != ys[k]) = true := bne_yes he
          clear he
          go_wp2
          go_region
          all_goals
            go_wp2
            go_ret
            exact ⟨ret_bool HE.out.symm, HB.out.drew⟩
      · obtain rfl : k = xs.length := by omega
        go_wp2
        go_ret
        exact ⟨ret_bool (eq_all HL.out HT.out).symm, HB.out⟩
  · have HE := Lib.hid (eq_len_no hle)
    have hn : ((xs.length : Int) != (ys.length : Int)) = true := bne_yes (by omega)
    go_enter Try.func95, Try.ntmps95
    go_wp2
    go_ret
    exact ⟨ret_bool HE.out.symm, Below.refl _ _⟩

end Go.Proofs.Ytnggfcopndcppaa
