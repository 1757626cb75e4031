/-
  Numbers that the laws of pairs, perfect numbers and sources draw; slices of slices held against each other.
-/
import Derived.Test.Ytlpmfapjgmhbhaa0C
import Derived.Test.Ytlpmfapjgmhbhaa0D
import Derived.Test.Ytlpmfapjgmhbhaa8L
namespace Go.Proofs.Ytlpmfapjgmhbhaa
open Go.RowKit
set_option linter.unusedVariables false
set_option linter.unusedSimpArgs false
set_option maxRecDepth 100000

theorem draw_EvenPerfect (v : Value) (xs : List Int) (w : World) (h : Sb w v xs) (hs : xs.length ≤ 1048576) :
    Calls Try.prog 23 #[v] w fun e w' => ∃ z : Int, e = .returned (.int .i64 z) ∧ Below w.heap.size w w' := by
  have HC := Lib.hid (Cu.start h hs)
  obtain ⟨a, cap, rfl⟩ := h.len
  have HB := Lib.hid (alloc_below w (.cells #[.slice a xs.length cap, .int .i64 0, .int .u64 0] 63))
  have HP := Lib.hid (pick_any w.heap.size _ xs 0 18 _ HC.out (by omega) (by omega) (by omega))
  clear h
  go_enter Try.func23, Try.ntmps23
  go_wp2_with (go_at_call 62; refine HP.out.mono ?_; rintro e w1 ⟨z, rfl, z0, z1, hc, hg⟩; have HB1 := Lib.hid (HB.out.trans (grown_below hg (by simp) (Nat.le_refl _))); clear hc hg)
  go_ret
  exact ⟨z, rfl, HB1.out⟩
theorem draw_ThabitPair (v : Value) (xs : List Int) (w : World) (h : Sb w v xs) (hs : xs.length ≤ 1048576) :
    Calls Try.prog 26 #[v] w fun e w' => ∃ z : Int, e = .returned (.int .i64 z) ∧ Below w.heap.size w w' := by
  have HC := Lib.hid (Cu.start h hs)
  obtain ⟨a, cap, rfl⟩ := h.len
  have HB := Lib.hid (alloc_below w (.cells #[.slice a xs.length cap, .int .i64 0, .int .u64 0] 63))
  have HP := Lib.hid (pick_any w.heap.size _ xs 0 10 _ HC.out (by omega) (by omega) (by omega))
  clear h
  go_enter Try.func26, Try.ntmps26
  go_wp2_with (go_at_call 62; refine HP.out.mono ?_; rintro e w1 ⟨z, rfl, z0, z1, hc, hg⟩; have HB1 := Lib.hid (HB.out.trans (grown_below hg (by simp) (Nat.le_refl _))); clear hc hg)
  go_ret
  exact ⟨z, rfl, HB1.out⟩

theorem draw_PairsUpTo (v : Value) (xs : List Int) (w : World) (h : Sb w v xs) (hs : xs.length ≤ 1048576) :
    Calls Try.prog 19 #[v] w fun e w' => ∃ z : Int, e = .returned (.int .i64 z) ∧ Below w.heap.size w w' := by
  have HC := Lib.hid (Cu.start h hs)
  obtain ⟨a, cap, rfl⟩ := h.len
  have HB := Lib.hid (alloc_below w (.cells #[.slice a xs.length cap, .int .i64 0, .int .u64 0] 63))
  clear h
  go_enter Try.func19, Try.ntmps19
  go_wp2_with fail
  refine (one_any w.heap.size _ xs _ 16 _ HC.out (by omega) (by omega) (by omega)).mono ?_
  rintro e w2 ⟨q, rfl, hc, hg⟩
  have C2 := Lib.hid hc
  have HB2 := Lib.hid (HB.out.trans (grown_below hg (by simp) (Nat.le_refl _)))
  clear hc hg
  cases q
  · go_wp2_with fail
    refine (pick_any w.heap.size _ xs _ 256 _ C2.out (by omega) (by omega) (by omega)).mono ?_
    rintro e w3 ⟨y, rfl, y0, y1, hc, hg⟩
    have C3 := Lib.hid hc
    have HB3 := Lib.hid (HB2.out.trans (grown_below hg HB2.out.size (Nat.le_refl _)))
    clear hc hg
    go_wp2_with fail
    refine (pick_any w.heap.size _ xs _ 8 _ C3.out (by omega) (by omega) (by omega)).mono ?_
    rintro e w4 ⟨x, rfl, x0, x1, hc, hg⟩
    have HB4 := Lib.hid (HB3.out.trans (grown_below hg HB3.out.size (Nat.le_refl _)))
    clear hc hg
    have m0 : 0 ≤ y * (1 + x) := Int.mul_nonneg y0 (by omega)
    have m1 : y * (1 + x) ≤ 255 * 8 := Int.mul_le_mul (show y ≤ 255 by omega) (show 1 + x ≤ 8 by omega) (by omega) (by omega)
    go_wp2
    go_ret
    exact ⟨_, rfl, HB4.out⟩
  · go_wp2_with (go_at_call 61; refine (among_lit w.heap.size _ xs _ [-1, 10001, 6000] _ C2.out (by omega) (by simp) (by simp)).mono ?_; rintro e w3 ⟨y, rfl, hc, hg⟩; have HB3 := Lib.hid (HB2.out.trans (grown_below hg HB2.out.size (Nat.le_refl _))); clear hc hg)
    go_ret
    exact ⟨_, rfl, HB3.out⟩

theorem draw_SourcesOf (v : Value) (xs : List Int) (w : World) (h : Sb w v xs) (hs : xs.length ≤ 1048576) :
    Calls Try.prog 30 #[v] w fun e w' => ∃ z : Int, e = .returned (.int .i64 z) ∧ Below w.heap.size w w' := by
  have HC := Lib.hid (Cu.start h hs)
  obtain ⟨a, cap, rfl⟩ := h.len
  have HB := Lib.hid (alloc_below w (.cells #[.slice a xs.length cap, .int .i64 0, .int .u64 0] 63))
  clear h
  go_enter Try.func30, Try.ntmps30
  go_wp2_with fail
  refine (one_any w.heap.size _ xs _ 8 _ HC.out (by omega) (by omega) (by omega)).mono ?_
  rintro e w2 ⟨q, rfl, hc, hg⟩
  have C2 := Lib.hid hc
  have HB2 := Lib.hid (HB.out.trans (grown_below hg (by simp) (Nat.le_refl _)))
  clear hc hg
  cases q
  · go_wp2_with (go_at_call 62; refine (pick_any w.heap.size _ xs _ 40 _ C2.out (by omega) (by omega) (by omega)).mono ?_; rintro e w3 ⟨y, rfl, y0, y1, hc, hg⟩; have HB3 := Lib.hid (HB2.out.trans (grown_below hg HB2.out.size (Nat.le_refl _))); clear hc hg)
    go_ret
    exact ⟨_, rfl, HB3.out⟩
  · go_wp2_with (go_at_call 61; refine (among_lit w.heap.size _ xs _ [0, 1, 100, 101] _ C2.out (by omega) (by simp) (by simp)).mono ?_; rintro e w3 ⟨y, rfl, hc, hg⟩; have HB3 := Lib.hid (HB2.out.trans (grown_below hg HB2.out.size (Nat.le_refl _))); clear hc hg)
    go_ret
    exact ⟨_, rfl, HB3.out⟩

theorem draw_NoSources (v : Value) (xs : List Int) (w : World) (h : Sb w v xs) (hs : xs.length ≤ 1048576) :
    Calls Try.prog 33 #[v] w fun e w' => ∃ z : Int, e = .returned (.int .i64 z) ∧ Below w.heap.size w w' := by
  have HC := Lib.hid (Cu.start h hs)
  obtain ⟨a, cap, rfl⟩ := h.len
  have HB := Lib.hid (alloc_below w (.cells #[.slice a xs.length cap, .int .i64 0, .int .u64 0] 63))
  clear h
  go_enter Try.func33, Try.ntmps33
  go_wp2_with fail
  refine (one_any w.heap.size _ xs _ 8 _ HC.out (by omega) (by omega) (by omega)).mono ?_
  rintro e w2 ⟨q, rfl, hc, hg⟩
  have C2 := Lib.hid hc
  have HB2 := Lib.hid (HB.out.trans (grown_below hg (by simp) (Nat.le_refl _)))
  clear hc hg
  cases q
  · go_wp2_with (go_at_call 62; refine (pick_any w.heap.size _ xs _ 50 _ C2.out (by omega) (by omega) (by omega)).mono ?_; rintro e w3 ⟨y, rfl, y0, y1, hc, hg⟩; have HB3 := Lib.hid (HB2.out.trans (grown_below hg HB2.out.size (Nat.le_refl _))); clear hc hg)
    go_ret
    exact ⟨_, rfl, HB3.out⟩
  · go_wp2_with (go_at_call 61; refine (among_lit w.heap.size _ xs _ [-1, 0, 1, 2, 100, 101] _ C2.out (by omega) (by simp) (by simp)).mono ?_; rintro e w3 ⟨y, rfl, hc, hg⟩; have HB3 := Lib.hid (HB2.out.trans (grown_below hg HB2.out.size (Nat.le_refl _))); clear hc hg)
    go_ret
    exact ⟨_, rfl, HB3.out⟩

theorem qSameRows_any (v u : Value) (vs us : List Value) (Z : Nat → List Int) (B C : Nat) (w : World) (h : LLf w B v vs Z) (h2 : LLf w C u us Z) (hn : vs.length = us.length) (hm : vs.length ≤ 40000) (hz : ∀ i, (Z i).length ≤ 2000000) :
    Calls Try.prog 22 #[v, u] w fun e w' => e = .returned (.bool true) ∧ Below w.heap.size w w' := by
  have H := Lib.hid h
  have H2 := Lib.hid h2
  have HZ := Lib.hid hz
  obtain ⟨a, cap, rfl, ha⟩ := h.shape
  obtain ⟨a2, cap2, rfl, ha2⟩ := h2.shape
  have HA := Lib.hid ha
  have HA2 := Lib.hid ha2
  obtain ⟨N, hN⟩ : ∃ N, N = vs.length := ⟨_, rfl⟩
  have HN := Lib.hid hN
  have HN2 := Lib.hid (hN.trans hn)
  rw [← hN] at hm
  have hne : ((N : Int) != (N : Int)) = false := bne_no rfl
  rw [← hn, ← hN]
  rw [← hN] at H
  rw [← hn, ← hN] at H2
  clear h h2 ha ha2 hn hN hz
  go_enter Try.func22, Try.ntmps22
  go_wp2
  go_loopw [13] (fun i wr => ∃ k : Nat, k ≤ N ∧ i = .int .i64 k ∧ Below w.heap.size w wr) (fun i _ => N - (intOf i).toNat)
  case atStart => exact ⟨0, Nat.zero_le _, rfl, Below.refl _ _⟩
  case round =>
    obtain ⟨k, hk, rfl, hb⟩ := hrel
    have HB := Lib.hid hb
    clear hb
    by_cases hlt : k < N
    · rcases HA.out with hx | ⟨gv, rfl⟩
      · have := HN.out; rw [hx] at this; simp at this; omega
      rcases HA2.out with hx | ⟨gv2, rfl⟩
      · have := HN2.out; rw [hx] at this; simp at this; omega
      obtain ⟨z, hz⟩ : ∃ z, vs[k]? = some z := ⟨vs[k]'(by rw [← HN.out]; exact hlt), by simp⟩
      obtain ⟨z2, hz2⟩ : ∃ z, us[k]? = some z := ⟨us[k]'(by rw [← HN2.out]; exact hlt), by simp⟩
      have hc1 := (H.out.keep HB.out).cell hz
      have hc2 := (H2.out.keep HB.out).cell hz2
      have R1 := Lib.hid ((H.out.keep HB.out).at' k z hz)
      have R2 := Lib.hid ((H2.out.keep HB.out).at' k z2 hz2)
      obtain ⟨b1, d1, rfl⟩ := R1.out.shape'
      obtain ⟨b2, d2, rfl⟩ := R2.out.shape'
      clear hz hz2
      have R1d := Lib.hid (R1.out.drew.sl)
      have R2d := Lib.hid (R2.out.drew.sl)
      have HBd := Lib.hid (HB.out.drew)
      go_wp2
      go_region_with (go_at_call 14; refine (qSame_any _ _ (Z k) wr.drew R1d.out R2d.out (HZ.out k)).mono ?_; rintro e w1 ⟨rfl, hb⟩; have HB1 := Lib.hid (Below.step HBd.out HBd.out.size hb); clear hb)
      all_goals
        go_wp2
        go_roundw
        case rel => exact ⟨k + 1, by omega, by go_num, HB1.out⟩
        case measure => simp [intOf]; omega
    · obtain rfl : k = N := by omega
      go_wp2
      go_ret
      exact ⟨rfl, HB.out⟩

end Go.Proofs.Ytlpmfapjgmhbhaa
