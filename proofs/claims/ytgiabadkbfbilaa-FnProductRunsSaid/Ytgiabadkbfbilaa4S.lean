/-
  What the law of product runs draws.
-/
import Derived.Test.Ytgiabadkbfbilaa0G
import Derived.Test.Ytgiabadkbfbilaa0J
import Derived.Test.YtgiabadkbfbilaaT
namespace Go.Proofs.Ytgiabadkbfbilaa
open Go.RowKit
set_option linter.unusedVariables false
set_option linter.unusedSimpArgs false
set_option maxRecDepth 100000

theorem product_any (g : Nat) (v : Value) (xs : List Int) (K : Nat) (b : Int) (w : World) (h : Cu w g v xs K) (hK : K ≤ 800) :
    Calls Try.prog 101 #[.pointer (some ⟨g, 0, none⟩), .int .i64 b] w fun e w' => ∃ z : Int, e = .returned (.int .i64 z) ∧ w.grownBy w' (some g) := by
  have HO := Lib.hid (one_any g v xs K 5 w h (by omega) (by omega) (by omega))
  have HN := Lib.hid (fun w' (h : Cu w' g v xs (K + 2)) => numberD_any g v xs (K + 2) w' h (by omega))
  have HPK := Lib.hid (fun w' K' n (h : Cu w' g v xs K') (hK' : K' ≤ 900) (h0 : 0 ≤ n) (h1 : n ≤ 100) => pick_any g v xs K' n w' h (by omega) h0 (by omega))
  clear h
  go_enter Try.func101, Try.ntmps101
  go_wp2_with fail
  refine HO.out.mono ?_
  rintro e w1 ⟨q, rfl, hc, hg⟩
  have C1 := Lib.hid hc
  have G1 := Lib.hid hg
  clear hc hg
  by_cases hq : q = true ∨ ¬ Bas b
  · have HD := Lib.hid (fun w' => dgBase_any b w')
    cases q
    · have hB : ¬ Bas b := hq.resolve_left (by simp)
      rw [decide_eq_false hB] at HD
      go_wp2_with fail
      refine (HD.out _).mono ?_
      rintro e w2 ⟨rfl, rfl⟩
      go_wp2_with fail
      refine (HN.out _ C1.out).mono ?_
      rintro e w3 ⟨z, rfl, _, hg⟩
      have G2 := Lib.hid (grown_trans G1.out hg)
      clear hg
      go_wp2
      go_ret
      exact ⟨_, rfl, G2.out⟩
    · go_wp2_with fail
      refine (HN.out _ C1.out).mono ?_
      rintro e w3 ⟨z, rfl, _, hg⟩
      have G2 := Lib.hid (grown_trans G1.out hg)
      clear hg
      go_wp2
      go_ret
      exact ⟨_, rfl, G2.out⟩
  · obtain ⟨hq1, hB⟩ : q = false ∧ Bas b := by
      cases q
      · exact ⟨rfl, by by_cases h : Bas b; exact h; exact absurd (.inr h) hq⟩
      · exact absurd (.inl rfl) hq
    subst hq1
    have HD := Lib.hid (fun w' => dgBase_any b w')
    rw [decide_eq_true hB] at HD
    obtain ⟨b0, b1⟩ := hB
    clear hq
    go_wp2_with fail
    refine (HD.out _).mono ?_
    rintro e w2 ⟨rfl, rfl⟩
    go_wp2_with fail
    refine (HPK.out _ _ 8 C1.out (by omega) (by omega) (by omega)).mono ?_
    rintro e w3 ⟨x, rfl, x0, x1, hc, hg⟩
    obtain ⟨X, rfl⟩ : ∃ X : Nat, x = (X : Int) := ⟨x.toNat, by omega⟩
    have hX : X ≤ 8 := by omega
    have C3 := Lib.hid hc
    have G3 := Lib.hid (grown_trans G1.out hg)
    clear hc hg x0 x1
    go_wp2
    go_loopw [5, 6] (fun n i wr => ∃ (z : Int) (j : Nat), n = .int .i64 z ∧ i = .int .i64 (j : Int) ∧ j ≤ X ∧ Cu wr g v xs (K + 4 + 2 * (X - j)) ∧ w.grownBy wr (some g)) (fun _ i _ => (intOf i).toNat)
    case atStart => exact ⟨1, X, rfl, rfl, Nat.le_refl _, by rw [Nat.sub_self]; exact C3.out, G3.out⟩
    case round =>
      obtain ⟨z, j, rfl, rfl, hj, hc, hg⟩ := hrel
      have CR := Lib.hid hc
      have GR := Lib.hid hg
      clear hc hg
      by_cases hgo : 0 < j ∧ 2 < b
      · obtain ⟨j0, hb2⟩ := hgo
        have hji : (0 : Int) < (j : Int) := by omega
        go_wp2_with fail
        refine (HPK.out _ _ (b - 2) CR.out (by omega) (by omega) (by omega)).mono ?_
        rintro e w5 ⟨y, rfl, y0, y1, hc, hg⟩
        have hy : y ≤ 16 := by omega
        have C5 := Lib.hid hc
        have G5 := Lib.hid (grown_trans GR.out hg)
        clear hc hg y1
        go_wp2
        go_roundw
        case rel => exact ⟨_, j - 1, rfl, by go_num, by omega, by rw [show K + 4 + 2 * (X - (j - 1)) = K + 4 + 2 * (X - j) + 2 by omega]; exact C5.out, G5.out⟩
        case measure => simp [intOf]; omega
      · have HDN := Lib.hid (dgNumber_any z wr)
        have hcase : ¬ (0 : Int) < (j : Int) ∨ ((0 : Int) < (j : Int) ∧ ¬ 2 < b) := by omega
        by_cases hN : Num z
        · rw [decide_eq_true hN] at HDN
          clear hN hgo
          rcases hcase with h1 | ⟨h1, h2⟩
          all_goals
            go_wp2_with fail
            refine HDN.out.mono ?_
            rintro e w9 ⟨rfl, rfl⟩
            go_wp2
            go_ret
            exact ⟨_, rfl, GR.out⟩
        · rw [decide_eq_false hN] at HDN
          clear hN hgo
          rcases hcase with h1 | ⟨h1, h2⟩
          all_goals
            go_wp2_with fail
            refine HDN.out.mono ?_
            rintro e w9 ⟨rfl, rfl⟩
            go_wp2
            go_ret
            exact ⟨_, rfl, GR.out⟩

theorem draw_ProductRun (v : Value) (xs : List Int) (w : World) (h : Sb w v xs) (hs : xs.length ≤ 1048576) :
    Calls Try.prog 28 #[v] w fun e w' => ∃ z y : Int, e = .returned (.tuple #[.int .i64 z, .int .i64 y]) ∧ Below w.heap.size w w' := by
  have HC := Lib.hid (Cu.start h hs)
  obtain ⟨a, cap, rfl⟩ := h.len
  have HB := Lib.hid (alloc_below w (.cells #[.slice a xs.length cap, .int .i64 0, .int .u64 0] 59))
  clear h
  go_enter Try.func28, Try.ntmps28
  go_wp2_with fail
  refine (numberD_any w.heap.size _ xs _ _ HC.out (by omega)).mono ?_
  rintro e w1 ⟨z, rfl, hc, hg⟩
  have C1 := Lib.hid hc
  have HB1 := Lib.hid (HB.out.trans (grown_below hg (by simp) (Nat.le_refl _)))
  clear hc hg
  go_wp2_with (go_at_call 89; refine (base_any w.heap.size _ xs _ _ C1.out (by omega)).mono ?_; rintro e w2 ⟨y, rfl, hc, hg⟩; have HB2 := Lib.hid (HB1.out.trans (grown_below hg HB1.out.size (Nat.le_refl _))); clear hc hg)
  go_ret2
  exact ⟨_, _, rfl, HB2.out⟩

theorem draw_LeastWithProduct (v : Value) (xs : List Int) (w : World) (h : Sb w v xs) (hs : xs.length ≤ 1048576) :
    Calls Try.prog 37 #[v] w fun e w' => ∃ z y : Int, e = .returned (.tuple #[.int .i64 z, .int .i64 y]) ∧ Below w.heap.size w w' := by
  have HC := Lib.hid (Cu.start h hs)
  obtain ⟨a, cap, rfl⟩ := h.len
  have HB := Lib.hid (alloc_below w (.cells #[.slice a xs.length cap, .int .i64 0, .int .u64 0] 59))
  clear h
  go_enter Try.func37, Try.ntmps37
  go_wp2_with fail
  refine (base_any w.heap.size _ xs _ _ HC.out (by omega)).mono ?_
  rintro e w1 ⟨y, rfl, hc, hg⟩
  have C1 := Lib.hid hc
  have HB1 := Lib.hid (HB.out.trans (grown_below hg (by simp) (Nat.le_refl _)))
  clear hc hg
  go_wp2_with fail
  refine (product_any w.heap.size _ xs _ y _ C1.out (by omega)).mono ?_
  rintro e w2 ⟨z, rfl, hg⟩
  have HB2 := Lib.hid (HB1.out.trans (grown_below hg HB1.out.size (Nat.le_refl _)))
  clear hg
  go_wp2
  go_ret2
  exact ⟨_, _, rfl, HB2.out⟩

theorem draw_LeastPersistent (v : Value) (xs : List Int) (w : World) (h : Sb w v xs) (hs : xs.length ≤ 1048576) :
    Calls Try.prog 44 #[v] w fun e w' => ∃ z y : Int, e = .returned (.tuple #[.int .i64 z, .int .i64 y]) ∧ Below w.heap.size w w' := by
  have HC := Lib.hid (Cu.start h hs)
  obtain ⟨a, cap, rfl⟩ := h.len
  have HB := Lib.hid (alloc_below w (.cells #[.slice a xs.length cap, .int .i64 0, .int .u64 0] 59))
  clear h
  go_enter Try.func44, Try.ntmps44
  go_wp2_with fail
  refine (one_any w.heap.size _ xs _ 8 _ HC.out (by omega) (by omega) (by omega)).mono ?_
  rintro e w1 ⟨q, rfl, hc, hg⟩
  have C1 := Lib.hid hc
  have HB1 := Lib.hid (HB.out.trans (grown_below hg (by simp) (Nat.le_refl _)))
  clear hc hg
  cases q
  · go_wp2_with fail
    refine (pick_any w.heap.size _ xs _ 5 _ C1.out (by omega) (by omega) (by omega)).mono ?_
    rintro e w2 ⟨x, rfl, _, _, hc, hg⟩
    have C2 := Lib.hid hc
    have HB2 := Lib.hid (HB1.out.trans (grown_below hg HB1.out.size (Nat.le_refl _)))
    clear hc hg
    go_wp2_with fail
    refine (base_any w.heap.size _ xs _ _ C2.out (by omega)).mono ?_
    rintro e w3 ⟨y, rfl, hc, hg⟩
    have HB3 := Lib.hid (HB2.out.trans (grown_below hg HB2.out.size (Nat.le_refl _)))
    clear hc hg
    go_wp2
    go_ret2
    exact ⟨_, _, rfl, HB3.out⟩
  · go_wp2_with fail
    refine (among_at w.heap.size _ xs _ [-1, 12, 13] _ C1.out (by omega) (by simp) (by simp) rfl rfl rfl).mono ?_
    rintro e w2 ⟨x, rfl, hc, hg⟩
    have C2 := Lib.hid hc
    have HB2 := Lib.hid (HB1.out.trans (grown_below hg HB1.out.size (Nat.le_refl _)))
    clear hc hg
    go_wp2_with fail
    refine (base_any w.heap.size _ xs _ _ C2.out (by omega)).mono ?_
    rintro e w3 ⟨y, rfl, hc, hg⟩
    have HB3 := Lib.hid (HB2.out.trans (grown_below hg HB2.out.size (Nat.le_refl _)))
    clear hc hg
    go_wp2
    go_ret2
    exact ⟨_, _, rfl, HB3.out⟩
end Go.Proofs.Ytgiabadkbfbilaa
