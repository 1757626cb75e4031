/-
  Answers: steps by gaps.
-/
import Derived.Test.YtegclfohkjemgaaJL
namespace Go.Proofs.Ytegclfohkjemgaa
open Go.RowKit
set_option linter.unusedVariables false
set_option linter.unusedSimpArgs false
set_option maxRecDepth 100000

theorem below_drewN' {B : Nat} {a w : World} (h : Below B a w) (n : Nat) : Below B a (w.drewN n) := ⟨h.1, h.2, h.3, h.4, h.5⟩
/-- A list's cells. -/
def GC (w : World) (a : Option Addr) (g : List Int) : Prop := g = [] ∨ ∃ ga off, a = some ⟨ga, off, none⟩ ∧ ∀ j (hj : j < g.length), w.cell? ⟨ga, off + j, none⟩ = some (.int .i64 g[j])
theorem GC.drewN {w : World} {a : Option Addr} {g : List Int} (h : GC w a g) (n : Nat) : GC (w.drewN n) a g := h

theorem areGaps_any (v : Value) (g : List Int) (W : Nat) (b : Int) (w : World) (h : Sl w v g) (hW : W ≤ 8) (hl : g.length ≤ 2000000) :
    Calls Try.prog 63 #[shp (W : Int) b, v] w fun e w' => e = .returned (.bool (decide (g.length = W / 2) && allIn 0 (b - 1) g && nr g)) ∧ Below w.heap.size w w' := by
  have H := Lib.hid h
  obtain ⟨a, cap, rfl, hx⟩ := h
  have HAL := Lib.hid (alloc_below w (.cells #[.int .i64 (W : Int), .int .i64 b] 57))
  have HC0 := Lib.hid (show (w.alloc (.cells #[.int .i64 (W : Int), .int .i64 b] 57)).cell? ⟨w.heap.size, 0, none⟩ = some (.int .i64 (W : Int)) by simp [go_sem])
  have HC1 := Lib.hid (show (w.alloc (.cells #[.int .i64 (W : Int), .int .i64 b] 57)).cell? ⟨w.heap.size, 1, none⟩ = some (.int .i64 b) by simp [go_sem])
  clear hx
  by_cases hL : g.length = W / 2
  · have hne : ((g.length : Int) != ((W / 2 : Nat) : Int)) = false := bne_no (by omega)
    have hne' : ((g.length : Int) != (W : Int) / 2) = false := bne_no (by omega)
    by_cases hA : allIn 0 (b - 1) g = true
    · rw [hA, show decide (g.length = W / 2) = true from decide_eq_true hL, Bool.true_and, Bool.true_and]
      have HL := Lib.hid hL
      clear hL
      go_enter Try.func63, Try.ntmps63
      go_wp2_with fail
      refine (countGaps_any W b _ hW).mono ?_
      rintro e w1 ⟨rfl, hb1⟩
      have B1 := Lib.hid (Below.step HAL.out HAL.out.size hb1)
      have c0 := Below.keeps_cell hb1 HC0.out
      have c1 := Below.keeps_cell hb1 HC1.out
      clear hb1
      go_wp2_with fail
      refine (areDigits_sh _ g _ _ _ (H.out.keep B1.out) hl).mono ?_
      rw [hA]
      rintro e w2 ⟨rfl, hb2⟩
      have B2 := Lib.hid (Below.step B1.out B1.out.size hb2)
      have HX := Lib.hid (show GC w2 a g by
        obtain ⟨a', cap', hu, hx⟩ := H.out.keep B2.out
        simp only [Value.slice.injEq] at hu
        obtain ⟨rfl, _, _⟩ := hu
        rcases hx with hx | ⟨ga, off, h1, h2, h3⟩
        · exact .inl hx
        · exact .inr ⟨ga, off, h1, h3⟩)
      clear hb2 c0 c1
      go_wp2
      go_loopw [5] (fun i wr => ∃ k : Nat, 1 ≤ k ∧ (k ≤ g.length ∨ k = 1) ∧ i = .int .i64 (k : Int) ∧ Hid (∀ j, j < k → j < g.length → 1 ≤ j → g.getD j 0 ≤ g.getD (j - 1) 0) ∧ Below w.heap.size w wr ∧ GC wr a g) (fun i _ => g.length - (intOf i).toNat)
      case atStart => exact ⟨1, Nat.le_refl _, .inr rfl, rfl, Lib.hid (fun j h1 _ h2 => by omega), B2.out, HX.out⟩
      case round =>
        obtain ⟨k, hk1, hk, rfl, HN, hbl, hgc⟩ := hrel
        have HB := Lib.hid hbl
        have HX := Lib.hid hgc
        clear hbl hgc
        by_cases hlt : k < g.length
        · rcases HX.out with hx | ⟨ga, off, rfl, hc⟩
          · rw [hx] at hlt; simp at hlt
          have hc1 := hc k hlt
          have hc2 := hc (k - 1) (by omega)
          obtain ⟨x, hx⟩ : ∃ x, x = g[k] := ⟨_, rfl⟩
          obtain ⟨y, hy⟩ : ∃ y, y = g[k - 1]'(by omega) := ⟨_, rfl⟩
          have HXD := Lib.hid (show g.getD k 0 = x by rw [hx]; simp [hlt])
          have HYD := Lib.hid (show g.getD (k - 1) 0 = y by rw [hy]; simp [show k - 1 < g.length by omega])
          rw [← hx] at hc1
          rw [← hy] at hc2
          have hk1' : k - 1 < g.length := by omega
          clear hc hx hy
          by_cases hle : x ≤ y
          · have HN2 := Lib.hid (show ∀ j, j < k + 1 → j < g.length → 1 ≤ j → g.getD j 0 ≤ g.getD (j - 1) 0 from fun j h1 h2 h3 => by
              by_cases e : j = k
              · subst e; rw [HXD.out, HYD.out]; exact hle
              · exact HN.out j (by omega) h2 h3)
            go_wp2
            have hw1 : IntKind.i64.wrap ((k : Int) - 1) = ((k - 1 : Nat) : Int) := by rw [IntWalk.i64_in _ (by omega)]; omega
            go_quiet (fail)
            clear hw1
            go_wp2
            go_roundw
            case rel => exact ⟨k + 1, by omega, by omega, by go_num, HN2, below_drewN' HB.out _, HX.out.drewN _⟩
            case measure => simp [intOf]; omega
          · have HO := Lib.hid (show nr g = false from decide_eq_false (fun h => hle (by have := h k hlt hk1; rwa [HXD.out, HYD.out] at this)))
            go_wp2
            have hw1 : IntKind.i64.wrap ((k : Int) - 1) = ((k - 1 : Nat) : Int) := by rw [IntWalk.i64_in _ (by omega)]; omega
            go_quiet (fail)
            clear hw1
            go_wp2
            go_ret
            exact ⟨ret_bool HO.out.symm, below_drewN' HB.out _⟩
        · have HO := Lib.hid (show nr g = true from decide_eq_true (fun j h1 h2 => HN.out j (by omega) h1 h2))
          go_wp2
          go_ret
          exact ⟨ret_bool HO.out.symm, HB.out⟩
    · have hA' : allIn 0 (b - 1) g = false := by simpa using hA
      rw [hA', Bool.and_false, Bool.false_and]
      clear hA
      have HL := Lib.hid hL
      clear hL
      go_enter Try.func63, Try.ntmps63
      go_wp2_with fail
      refine (countGaps_any W b _ hW).mono ?_
      rintro e w1 ⟨rfl, hb1⟩
      have B1 := Lib.hid (Below.step HAL.out HAL.out.size hb1)
      have c0 := Below.keeps_cell hb1 HC0.out
      have c1 := Below.keeps_cell hb1 HC1.out
      clear hb1
      go_wp2_with fail
      refine (areDigits_sh _ g _ _ _ (H.out.keep B1.out) hl).mono ?_
      rw [hA']
      rintro e w2 ⟨rfl, hb2⟩
      have B2 := Lib.hid (Below.step B1.out B1.out.size hb2)
      clear hb2
      go_wp2
      go_ret
      exact ⟨rfl, B2.out⟩
  · have hne : ((g.length : Int) != ((W / 2 : Nat) : Int)) = true := bne_yes (by omega)
    have hne' : ((g.length : Int) != (W : Int) / 2) = true := bne_yes (by omega)
    rw [show decide (g.length = W / 2) = false from decide_eq_false hL, Bool.false_and, Bool.false_and]
    clear hL
    go_enter Try.func63, Try.ntmps63
    go_wp2_with fail
    refine (countGaps_any W b _ hW).mono ?_
    rintro e w1 ⟨rfl, hb1⟩
    have B1 := Lib.hid (Below.step HAL.out HAL.out.size hb1)
    clear hb1
    go_wp2
    go_ret
    exact ⟨rfl, B1.out⟩

end Go.Proofs.Ytegclfohkjemgaa
