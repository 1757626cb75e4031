/-
  Choices by a cursor: numbers below a bound, elements of a list; the numbers that the laws of chapter 8 draw.
-/
import Derived.Test.Ytnggfcopndcppaa0A
namespace Go.Proofs.Ytnggfcopndcppaa
open Go.RowKit
set_option linter.unusedVariables false
set_option linter.unusedSimpArgs false
set_option maxRecDepth 100000

theorem pick_any (g : Nat) (v : Value) (xs : List Int) (K : Nat) (n : Int) (w : World) (h : Cu w g v xs K) (hK : K ≤ 1000000) (h0 : 0 ≤ n) (h1 : n ≤ 65536) :
    Calls Try.prog 68 #[.pointer (some ⟨g, 0, none⟩), .int .i64 n] w fun e w' => ∃ x : Int, e = .returned (.int .i64 x) ∧ 0 ≤ x ∧ (x < n ∨ x = 0) ∧ Cu w' g v xs (K + 2) ∧ w.grownBy w' (some g) := by
  have H := Lib.hid h
  clear h
  by_cases hn : n ≤ 1
  · go_enter Try.func68, Try.ntmps68
    go_wp2
    go_ret
    exact ⟨0, rfl, by omega, .inr rfl, H.out.mono (by omega), World.grownBy.refl _ _⟩
  · have HN := Lib.hid (show ∀ w', Cu w' g v xs K → Calls Try.prog 98 #[.pointer (some ⟨g, 0, none⟩)] w' fun e w'' => ∃ x : Int, e = .returned (.int .i64 x) ∧ 0 ≤ x ∧ x ≤ 255 ∧ Cu w'' g v xs (K + 1) ∧ w'.grownBy w'' (some g) from fun w' h => next_any g v xs K w' h (by omega))
    by_cases hn2 : 200 < n
    · have HN2 := Lib.hid (show ∀ w', Cu w' g v xs (K + 1) → Calls Try.prog 98 #[.pointer (some ⟨g, 0, none⟩)] w' fun e w'' => ∃ x : Int, e = .returned (.int .i64 x) ∧ 0 ≤ x ∧ x ≤ 255 ∧ Cu w'' g v xs (K + 2) ∧ w'.grownBy w'' (some g) from fun w' h => next_any g v xs (K + 1) w' h (by omega))
      go_enter Try.func68, Try.ntmps68
      go_wp2_with fail
      refine (HN.out _ H.out).mono ?_
      rintro e w1 ⟨x, rfl, x0, x1, hc, hg⟩
      have C1 := Lib.hid hc
      have G1 := Lib.hid hg
      clear hc hg
      go_wp2_with fail
      refine (HN2.out _ C1.out).mono ?_
      rintro e w2 ⟨y, rfl, y0, y1, hc, hg⟩
      have C2 := Lib.hid hc
      have G2 := Lib.hid (grown_trans G1.out hg)
      clear hc hg
      have hz0 : 0 ≤ x * 256 + y := by omega
      have hm := Int.emod_nonneg (x * 256 + y) (show n ≠ 0 by omega)
      have hm2 := Int.emod_lt_of_pos (x * 256 + y) (show 0 < n by omega)
      go_wp2
      go_ret
      exact ⟨(x * 256 + y) % n, by first | rfl | go_num, hm, .inl hm2, C2.out, G2.out⟩
    · go_enter Try.func68, Try.ntmps68
      go_wp2_with fail
      refine (HN.out _ H.out).mono ?_
      rintro e w1 ⟨x, rfl, x0, x1, hc, hg⟩
      have C1 := Lib.hid hc
      have G1 := Lib.hid hg
      clear hc hg
      have hm := Int.emod_nonneg x (show n ≠ 0 by omega)
      have hm2 := Int.emod_lt_of_pos x (show 0 < n by omega)
      go_wp2
      go_ret
      exact ⟨x % n, by first | rfl | go_num, hm, .inl hm2, C1.out.mono (by omega), G1.out⟩

theorem one_any (g : Nat) (v : Value) (xs : List Int) (K : Nat) (n : Int) (w : World) (h : Cu w g v xs K) (hK : K ≤ 1000000) (h0 : 0 ≤ n) (h1 : n ≤ 65536) :
    Calls Try.prog 69 #[.pointer (some ⟨g, 0, none⟩), .int .i64 n] w fun e w' => ∃ q : Bool, e = .returned (.bool q) ∧ Cu w' g v xs (K + 2) ∧ w.grownBy w' (some g) := by
  have HP := Lib.hid (pick_any g v xs K n w h hK h0 h1)
  clear h
  go_enter Try.func69, Try.ntmps69
  go_wp2_with (go_at_call 68; refine HP.out.mono ?_; rintro e w1 ⟨x, rfl, x0, x1, hc, hg⟩; have C1 := Lib.hid hc; have G1 := Lib.hid hg; clear hc hg x1)
  go_ret
  exact ⟨_, rfl, C1.out, G1.out⟩

theorem among_any (g : Nat) (v : Value) (xs : List Int) (K : Nat) (b c D : Nat) (ys : List Int) (w : World) (h : Cu w g v xs K) (hK : K ≤ 1000000) (hy : Rd w D (.slice (some ⟨b, 0, none⟩) ys.length c) ys) (hbg : b ≠ g) (h1 : 1 ≤ ys.length) (h2 : ys.length ≤ 1000) :
    Calls Try.prog 70 #[.pointer (some ⟨g, 0, none⟩), .slice (some ⟨b, 0, none⟩) ys.length c] w fun e w' => ∃ x : Int, e = .returned (.int .i64 x) ∧ Cu w' g v xs (K + 2) ∧ w.grownBy w' (some g) := by
  have HP := Lib.hid (pick_any g v xs K (ys.length : Int) w h hK (by omega) (by omega))
  have HY := Lib.hid hy
  have HB := Lib.hid hbg
  obtain ⟨L, hL⟩ : ∃ L, L = ys.length := ⟨_, rfl⟩
  rw [← hL] at HP HY h1 h2 ⊢
  have HLL := Lib.hid hL
  clear h hy hbg hL
  go_enter Try.func70, Try.ntmps70
  go_wp2_with fail
  refine HP.out.mono ?_
  rintro e w1 ⟨x, rfl, x0, x1, hc, hg⟩
  have C1 := Lib.hid hc
  have G1 := Lib.hid hg
  obtain ⟨X, rfl⟩ : ∃ X : Nat, x = (X : Int) := ⟨x.toNat, by omega⟩
  have hX : X < L := by omega
  have hcell : w1.cell? ⟨b, X, none⟩ = some (.int .i64 (ys.getD X 0)) := by
    have hr : Rd w1 D (.slice (some ⟨b, 0, none⟩) L c) ys := HY.out.grown hg (.inr (fun e => HB.out (by simpa [Value.ownBlock] using e)))
    rw [hr.at.2.2.2.2.1 X (by rw [← HLL.out]; exact hX)]
    simp [show X < ys.length by rw [← HLL.out]; exact hX]
  obtain ⟨y, hy⟩ : ∃ y, y = ys.getD X 0 := ⟨_, rfl⟩
  rw [← hy] at hcell
  clear hc hg hy x1
  go_wp2
  go_ret
  exact ⟨y, rfl, C1.out, G1.out⟩

theorem Cu.start {w : World} {v : Value} {xs : List Int} (h : Sb w v xs) (hs : xs.length ≤ 1048576) : Cu (w.alloc (.cells #[v, .int .i64 0, .int .u64 0] 53)) w.heap.size v xs 0 := by
  obtain ⟨a, cap, rfl, h1, h2⟩ := h
  refine ⟨by simp [go_sem], ⟨0, Nat.le_refl _, by simp [go_sem]⟩, ⟨0, by omega, by simp [go_sem]⟩, fun j => by simp [go_sem], by simp, ⟨a, cap, rfl⟩, h1, ?_, hs⟩
  rcases h2 with h2 | ⟨b, off, rfl, h3, h4⟩
  · exact .inl h2
  · exact .inr ⟨b, off, cap, rfl, h3, fun j hj => ((alloc_below w _).cell (p := ⟨b, off + j, none⟩) h3).trans (h4 j hj)⟩

/-- A list of constants, as the laws' choices name it. -/
theorem rd_consts (w : World) (ys : List Int) (h : ys.length ≤ 1000) : Rd (w.alloc (.cells (ys.map (Value.int .i64)).toArray 3)) w.heap.size (.slice (some ⟨w.heap.size, 0, none⟩) ys.length ys.length) ys := by
  have := World.ownsRow_lit (e := 3) (size := 1) (base := w.heap.size) w (ys.map (Value.int .i64)).toArray ys.length (Nat.le_refl _) (by unfold maxLen; omega) (by simp)
  unfold Rd
  simpa using this

theorem among_lit (g : Nat) (v : Value) (xs : List Int) (K : Nat) (ys : List Int) (w : World) (h : Cu w g v xs K) (hK : K ≤ 1000000) (h1 : 1 ≤ ys.length) (h2 : ys.length ≤ 1000) :
    Calls Try.prog 70 #[.pointer (some ⟨g, 0, none⟩), .slice (some ⟨w.heap.size, 0, none⟩) ys.length ys.length] (w.alloc (.cells (ys.map (Value.int .i64)).toArray 3)) fun e w' => ∃ x : Int, e = .returned (.int .i64 x) ∧ Cu w' g v xs (K + 2) ∧ w.grownBy w' (some g) := by
  refine (among_any g v xs K w.heap.size ys.length w.heap.size ys _ (h.alloc _) hK (rd_consts w ys h2) (fun e => by have := h.lt; omega) h1 h2).mono ?_
  rintro e w' ⟨x, rfl, hc, hg⟩
  exact ⟨x, rfl, hc, grown_trans (grown_alloc w _ _) hg⟩

end Go.Proofs.Ytnggfcopndcppaa
