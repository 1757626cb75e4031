/-
  What the law of chapter 6 about numbers told by their digits draws.
-/
import Derived.Test.Ytdlohdjejmpmcaa0G
import Derived.Test.Ytdlohdjejmpmcaa0D
import Derived.Test.Ytdlohdjejmpmcaa6A
import Derived.Test.YtdlohdjejmpmcaaWE
import Derived.Test.YtdlohdjejmpmcaaWF
import Derived.Test.YtdlohdjejmpmcaaWH
namespace Go.Proofs.Ytdlohdjejmpmcaa
open Go.RowKit
set_option linter.unusedVariables false
set_option linter.unusedSimpArgs false
set_option maxRecDepth 100000

theorem draw_ProductRun (v : Value) (xs : List Int) (w : World) (h : Sb w v xs) (hs : xs.length ≤ 1048576) :
    Calls Try.prog 83 #[v] w fun e w' => ∃ z y : Int, e = .returned (.tuple #[.int .i64 z, .int .i64 y]) ∧ Below w.heap.size w w' := by
  have HC := Lib.hid (Cu.start h hs)
  obtain ⟨a, cap, rfl⟩ := h.len
  have HB := Lib.hid (alloc_below w (.cells #[.slice a xs.length cap, .int .i64 0, .int .u64 0] 47))
  clear h
  go_enter Try.func83, Try.ntmps83
  go_wp2_with fail
  refine (numberD_any w.heap.size _ xs _ _ HC.out (by omega)).mono ?_
  rintro e w1 ⟨z, rfl, hc, hg⟩
  have C1 := Lib.hid hc
  have HB1 := Lib.hid (HB.out.trans (grown_below hg (by simp) (Nat.le_refl _)))
  clear hc hg
  go_wp2_with (go_at_call 53; refine (base_any w.heap.size _ xs _ _ C1.out (by omega)).mono ?_; rintro e w2 ⟨y, rfl, hc, hg⟩; have HB2 := Lib.hid (HB1.out.trans (grown_below hg HB1.out.size (Nat.le_refl _))); clear hc hg)
  go_ret2
  exact ⟨_, _, rfl, HB2.out⟩
theorem draw_NextHarshad (v : Value) (xs : List Int) (w : World) (h : Sb w v xs) (hs : xs.length ≤ 1048576) :
    Calls Try.prog 42 #[v] w fun e w' => ∃ z y : Int, e = .returned (.tuple #[.int .i64 z, .int .i64 y]) ∧ Below w.heap.size w w' := by
  have HD := Lib.hid (draw_ProductRun v xs w h hs)
  clear h
  go_enter Try.func42, Try.ntmps42
  go_wp2_with fail
  refine HD.out.mono ?_
  rintro e w1 ⟨z, y, rfl, hb⟩
  have HB := Lib.hid hb
  clear hb
  go_wp2
  go_ret2
  exact ⟨_, _, rfl, HB.out⟩

theorem draw_SumProductNumbers (v : Value) (xs : List Int) (w : World) (h : Sb w v xs) (hs : xs.length ≤ 1048576) :
    Calls Try.prog 49 #[v] w fun e w' => ∃ z y : Int, e = .returned (.tuple #[.int .i64 z, .int .i64 y]) ∧ Below w.heap.size w w' := by
  have HC := Lib.hid (Cu.start h hs)
  obtain ⟨a, cap, rfl⟩ := h.len
  have HB := Lib.hid (alloc_below w (.cells #[.slice a xs.length cap, .int .i64 0, .int .u64 0] 47))
  clear h
  go_enter Try.func49, Try.ntmps49
  go_wp2_with fail
  refine (pick_any w.heap.size _ xs _ 256 _ HC.out (by omega) (by omega) (by omega)).mono ?_
  rintro e w1 ⟨x, rfl, x0, x1, hc, hg⟩
  have C1 := Lib.hid hc
  have HB1 := Lib.hid (HB.out.trans (grown_below hg (by simp) (Nat.le_refl _)))
  have x2 : x ≤ 255 := by omega
  clear hc hg x1
  go_wp2_with fail
  refine (pick_any w.heap.size _ xs _ 8 _ C1.out (by omega) (by omega) (by omega)).mono ?_
  rintro e w2 ⟨y, rfl, y0, y1, hc, hg⟩
  have C2 := Lib.hid hc
  have HB2 := Lib.hid (HB1.out.trans (grown_below hg HB1.out.size (Nat.le_refl _)))
  have y2 : y ≤ 7 := by omega
  have m0 : 0 ≤ x * (1 + y) := Int.mul_nonneg x0 (by omega)
  have m1 : x * (1 + y) ≤ 2040 := by
    have := Int.mul_le_mul x2 (show 1 + y ≤ 8 by omega) (by omega) (by omega)
    omega
  clear hc hg y1
  go_wp2_with fail
  refine (one_any w.heap.size _ xs _ 10 _ C2.out (by omega) (by omega) (by omega)).mono ?_
  rintro e w3 ⟨q, rfl, hc, hg⟩
  have C3 := Lib.hid hc
  have HB3 := Lib.hid (HB2.out.trans (grown_below hg HB2.out.size (Nat.le_refl _)))
  clear hc hg
  cases q
  · go_wp2_with (go_at_call 53; refine (base_any w.heap.size _ xs _ _ C3.out (by omega)).mono ?_; rintro e w4 ⟨u, rfl, hc, hg⟩; have HB4 := Lib.hid (HB3.out.trans (grown_below hg HB3.out.size (Nat.le_refl _))); clear hc hg)
    go_ret2
    exact ⟨_, _, rfl, HB4.out⟩
  · have HA := Lib.hid (among_lit w.heap.size _ xs _ [-1, 0, 20000, 20001] _ C3.out (by omega) (by simp) (by simp))
    go_wp2_with fail
    refine HA.out.mono ?_
    rintro e w4 ⟨t, rfl, hc, hg⟩
    have C4 := Lib.hid hc
    have HB4 := Lib.hid (HB3.out.trans (grown_below hg HB3.out.size (Nat.le_refl _)))
    clear hc hg
    go_wp2_with (go_at_call 53; refine (base_any w.heap.size _ xs _ _ C4.out (by omega)).mono ?_; rintro e w5 ⟨u, rfl, hc, hg⟩; have HB5 := Lib.hid (HB4.out.trans (grown_below hg HB4.out.size (Nat.le_refl _))); clear hc hg)
    go_ret2
    exact ⟨_, _, rfl, HB5.out⟩

end Go.Proofs.Ytdlohdjejmpmcaa
