/-
  Joint text of 0J 0L 3K 3P 3R (written by wip/tools/merge.py).
-/
import Derived.Test.Ytaenpmhnfcleeaa0D
import Derived.Test.Ytaenpmhnfcleeaa0B
import Derived.Test.Ytaenpmhnfcleeaa0G
import Derived.Test.YtaenpmhnfcleeaaVB
import Derived.Test.YtaenpmhnfcleeaaUH
import Derived.Test.YtaenpmhnfcleeaaZ
import Derived.Test.YtaenpmhnfcleeaaUL
import Derived.Test.YtaenpmhnfcleeaaUF
import Derived.Test.YtaenpmhnfcleeaaG2
import Derived.Test.YtaenpmhnfcleeaaG
/- from X0J -/
namespace Go.Proofs.Ytaenpmhnfcleeaa
open Go.RowKit
set_option linter.unusedVariables false
set_option linter.unusedSimpArgs false
set_option maxRecDepth 100000

/-- As among_lit, the block's number, the length and the cells told as the walk has them. -/
theorem among_at (g : Nat) (v : Value) (xs : List Int) (K : Nat) (ys : List Int) (w : World) (h : Cu w g v xs K) (hK : K ≤ 1000000) (h1 : 1 ≤ ys.length) (h2 : ys.length ≤ 1000)
    {s n : Nat} {cs : Array Value} (hs : s = w.heap.size) (hn : n = ys.length) (hcs : cs = (ys.map (Value.int .i64)).toArray) :
    Calls Try.prog 56 #[.pointer (some ⟨g, 0, none⟩), .slice (some ⟨s, 0, none⟩) n n] (w.alloc (.cells cs 3)) fun e w' => ∃ x : Int, e = .returned (.int .i64 x) ∧ Cu w' g v xs (K + 2) ∧ w.grownBy w' (some g) := by
  subst hs hn hcs
  exact among_lit g v xs K ys w h hK h1 h2

end Go.Proofs.Ytaenpmhnfcleeaa

/- from X0L -/
namespace Go.Proofs.Ytaenpmhnfcleeaa
open Go.RowKit
set_option linter.unusedVariables false
set_option linter.unusedSimpArgs false
set_option maxRecDepth 100000

theorem rSame_any (v u : Value) (xs : List Int) (w : World) (hv : Sl w v xs) (hu : Sl w u xs) (hl : xs.length ≤ 2000000) :
    Calls Try.prog 14 #[v, u] w fun e w' => e = .returned (.bool true) ∧ Below w.heap.size w w' := by
  obtain ⟨a, cap, rfl, hx⟩ := hv
  obtain ⟨c, cap2, rfl, hy⟩ := hu
  have HX := Lib.hid hx
  have HY := Lib.hid hy
  clear hx hy
  go_enter Try.func14, Try.ntmps14
  go_wp2
  go_loopw [13] (fun i wr => ∃ k : Nat, k ≤ xs.length ∧ i = .int .i64 k ∧ Below w.heap.size w wr) (fun i _ => xs.length - (intOf i).toNat)
  case atStart => exact ⟨0, Nat.zero_le _, rfl, Below.refl _ _⟩
  case round =>
    obtain ⟨k, hk, rfl, hb⟩ := hrel
    have HB := Lib.hid hb
    clear hb
    by_cases hlt : k < xs.length
    · rcases HX.out with hx | ⟨b, off, rfl, hbl, hc⟩
      · rw [hx] at hlt; simp at hlt
      rcases HY.out with hy | ⟨b2, off2, rfl, hbl2, hc2⟩
      · rw [hy] at hlt; simp at hlt
      have hcell : wr.cell? ⟨b, off + k, none⟩ = some (.int .i64 xs[k]) := (HB.out.cell (p := ⟨b, off + k, none⟩) hbl).trans (hc k hlt)
      have hcell2 : wr.cell? ⟨b2, off2 + k, none⟩ = some (.int .i64 xs[k]) := (HB.out.cell (p := ⟨b2, off2 + k, none⟩) hbl2).trans (hc2 k hlt)
      obtain ⟨x, hx⟩ : ∃ x, x = xs[k] := ⟨_, rfl⟩
      rw [← hx] at hcell hcell2
      clear hc hc2 hx
      go_wp2
      go_region
      all_goals
        go_wp2
        go_roundw
        case rel => exact ⟨k + 1, by omega, by go_num, HB.out.drew⟩
        case measure => simp [intOf]; omega
    · obtain rfl : k = xs.length := by omega
      go_wp2
      go_ret
      exact ⟨rfl, HB.out⟩
theorem rd_liesW {w : World} {B : Nat} {v : Value} {xs : List Int} (hr : Rd w B v xs) : ∃ a cap, v = .slice a xs.length cap ∧ xs.length ≤ cap ∧ (xs.length = 0 ∨ ∃ g, a = some ⟨g, 0, none⟩ ∧ g < w.heap.size ∧ ∀ (j : Nat) x, xs[j]? = some x → w.cell? ⟨g, j, none⟩ = some (.int .i64 x)) := by
  rcases hr.cases with ⟨rfl, rfl⟩ | ⟨g, cap, rfl, _⟩
  · exact ⟨none, 0, rfl, Nat.le_refl _, .inl rfl⟩
  · refine ⟨_, _, rfl, hr.at.2.2.2.1, .inr ⟨g, rfl, hr.at.2.2.1, fun j x hx => ?_⟩⟩
    obtain ⟨h1, h2⟩ := List.getElem?_eq_some_iff.1 hx
    rw [hr.at.2.2.2.2.1 j h1, h2]
theorem sum_bdW : ∀ (xs : List Int), (∀ x ∈ xs, 0 ≤ x ∧ x ≤ 1000000000000) → 0 ≤ xs.sum ∧ xs.sum ≤ 1000000000000 * xs.length
  | [], _ => by simp
  | x :: xs, h => by
    have h1 := h x (by simp)
    have h2 := sum_bdW xs (fun y hy => h y (by simp [hy]))
    simp
    omega
theorem rRising_any (v : Value) (xs : List Int) (B : Nat) (w : World) (h : Rd w B v xs) (hx : xs.Pairwise (· < ·)) (hl : xs.length ≤ 2000000) :
    Calls Try.prog 30 #[v] w fun e w' => e = .returned (.bool true) ∧ Below w.heap.size w w' := by
  obtain ⟨a, cap, rfl, hcap, hlies⟩ := rd_liesW h
  have HX := Lib.hid (List.pairwise_iff_getElem.1 hx)
  have HL := Lib.hid hlies
  obtain ⟨N, hN⟩ : ∃ N, N = xs.length := ⟨_, rfl⟩
  have HN := Lib.hid hN
  rw [← hN] at hcap hl ⊢
  clear h hx hlies hN
  go_enter Try.func30, Try.ntmps30
  go_wp2
  go_loopw [3] (fun i wr => ∃ k : Nat, k ≤ N ∧ i = .int .i64 ((k : Int) + 1) ∧ Below w.heap.size w wr) (fun i _ => N + 1 - (intOf i).toNat)
  case atStart => exact ⟨0, Nat.zero_le _, by go_num, Below.refl _ _⟩
  case round =>
    obtain ⟨k, hk, rfl, hb⟩ := hrel
    have HB := Lib.hid hb
    clear hb
    by_cases hlt : k + 1 < N
    · have hlt2 : (k : Int) + 1 < (N : Int) := by omega
      rcases HL.out with h0 | ⟨g, rfl, hg, hc⟩
      · exfalso; have := HN.out; omega
      have k1 : k < xs.length := by have := HN.out; omega
      have k2 : k + 1 < xs.length := by have := HN.out; omega
      have z0 := (HB.out.cell (p := ⟨g, k, none⟩) hg).trans (hc k _ (List.getElem?_eq_getElem k1))
      have z1 := (HB.out.cell (p := ⟨g, k + 1, none⟩) hg).trans (hc (k + 1) _ (List.getElem?_eq_getElem k2))
      have hr := HX.out k (k + 1) k1 k2 (by omega)
      obtain ⟨x, hx⟩ : ∃ x, x = xs[k] := ⟨_, rfl⟩
      obtain ⟨y, hy⟩ : ∃ y, y = xs[k + 1] := ⟨_, rfl⟩
      rw [← hx] at z0 hr
      rw [← hy] at z1 hr
      have hnl : ¬ y ≤ x := by omega
      have hw1 : wrap64 ((k : Int) + 1 - 1) = (k : Int) := by unfold wrap64; omega
      have hw2 : IntKind.i64.wrap ((k : Int) + 1 - 1) = (k : Int) := by rw [IntWalk.i64_in _ (by omega)]; omega
      clear hc hx hy k1 k2
      go_wp2
      go_region
      all_goals
        go_wp2
        go_roundw
        case rel => exact ⟨k + 1, by omega, by go_num, HB.out.drew⟩
        case measure => simp [intOf]; omega
    · have hlt2 : ¬ (k : Int) + 1 < (N : Int) := by omega
      go_wp2
      go_ret
      exact ⟨rfl, HB.out⟩

/-- A list that can be read: nothing, or cells from some place on. -/
def Src0 (w : World) (a : Option Addr) (xs : List Int) : Prop := xs.length = 0 ∨ ∃ g o, a = some ⟨g, o, none⟩ ∧ ∀ (j : Nat) x, xs[j]? = some x → w.cell? ⟨g, o + j, none⟩ = some (.int .i64 x)
theorem Src0.drop {w : World} {g : Nat} {xs : List Int} (h : ∀ (j : Nat) x, xs[j]? = some x → w.cell? ⟨g, j, none⟩ = some (.int .i64 x)) (t : Nat) : Src0 w (some ⟨g, t, none⟩) (xs.drop t) :=
  .inr ⟨g, t, rfl, fun j x hx => h (t + j) x (by rw [← List.getElem?_drop]; exact hx)⟩
theorem rHas_any (a : Option Addr) (xs : List Int) (N cap : Nat) (n : Int) (w : World) (h : Src0 w a xs) (hN : N = xs.length) (hl : N ≤ 2000000) :
    Calls Try.prog 15 #[.slice a N cap, .int .i64 n] w fun e w' => e = .returned (.bool (decide (n ∈ xs))) ∧ w = w' := by
  have HX := Lib.hid h
  have HN := Lib.hid hN
  clear h hN
  go_enter Try.func15, Try.ntmps15
  go_wp2
  go_loopw [9] (fun i wr => ∃ k : Nat, k ≤ N ∧ i = .int .i64 (k : Int) ∧ w = wr ∧ ∀ j, j < k → ∀ x, xs[j]? = some x → x ≠ n) (fun i _ => N - (intOf i).toNat)
  case atStart => exact ⟨0, Nat.zero_le _, rfl, rfl, fun j hj => by omega⟩
  case round =>
    obtain ⟨k, hk, rfl, rfl, hne⟩ := hrel
    have HE := Lib.hid hne
    clear hne
    by_cases hlt : k < N
    · have hlt2 : k < xs.length := by have := HN.out; omega
      have hgx := List.getElem?_eq_getElem hlt2
      rcases HX.out with h0 | ⟨g, o, rfl, hc⟩
      · exfalso; omega
      have z0 := hc k _ hgx
      have HGX := Lib.hid hgx
      obtain ⟨y, hy⟩ : ∃ y, y = xs[k] := ⟨_, rfl⟩
      rw [← hy] at z0 HGX
      clear hc hgx hlt2 hy
      by_cases he : y = n
      · have HM := Lib.hid (show n ∈ xs from he ▸ List.mem_of_getElem? HGX.out)
        have he2 : (y == n) = true := by simp [he]
        go_wp2
        go_ret
        exact ⟨by rw [decide_eq_true HM.out]; rfl, by first | rfl | trivial⟩
      · have HNE := Lib.hid he
        go_wp2
        go_roundw
        case rel =>
          refine ⟨k + 1, by omega, by go_num, by first | rfl | trivial, fun j hj x hx => ?_⟩
          by_cases hjk : j < k
          · exact HE.out j hjk x hx
          · have : j = k := by omega
            subst this
            rw [HGX.out] at hx
            exact Option.some.inj hx ▸ HNE.out
        case measure => simp [intOf]; omega
    · have HM := Lib.hid (show n ∉ xs from fun hm => by
        obtain ⟨j, hj, e⟩ := List.getElem_of_mem hm
        have := HN.out
        exact HE.out j (by omega) n (by rw [List.getElem?_eq_getElem hj, e]) rfl)
      go_wp2
      go_ret
      exact ⟨by rw [decide_eq_false HM.out]; rfl, by first | rfl | trivial⟩

end Go.Proofs.Ytaenpmhnfcleeaa

/- from X3K -/
namespace Go.Proofs.Ytaenpmhnfcleeaa
open Go.RowKit
set_option linter.unusedVariables false
set_option linter.unusedSimpArgs false
set_option maxRecDepth 100000

theorem powered_any (g : Nat) (v : Value) (xs : List Int) (K : Nat) (w : World) (h : Cu w g v xs K) (hK : K ≤ 800) :
    Calls Try.prog 61 #[.pointer (some ⟨g, 0, none⟩)] w fun e w' => ∃ z y p : Int, e = .returned (.tuple #[.int .i64 z, .int .i64 y, .int .i64 p]) ∧ Cu w' g v xs (K + 36) ∧ w.grownBy w' (some g) := by
  have HN := Lib.hid (numberD_any g v xs K w h (by omega))
  clear h
  go_enter Try.func61, Try.ntmps61
  go_wp2_with fail
  refine HN.out.mono ?_
  rintro e w1 ⟨z, rfl, hc, hg⟩
  have C1 := Lib.hid hc
  have G1 := Lib.hid hg
  clear hc hg
  go_wp2_with fail
  refine (base_any g v xs _ _ C1.out (by omega)).mono ?_
  rintro e w2 ⟨y, rfl, hc, hg⟩
  have C2 := Lib.hid hc
  have G2 := Lib.hid (grown_trans G1.out hg)
  clear hc hg
  go_wp2_with fail
  refine (among_at g v xs _ [1, 2, 2, 3, 3, 4, 5, 8, 9, 0] _ C2.out (by omega) (by simp) (by simp) rfl rfl rfl).mono ?_
  rintro e w3 ⟨p, rfl, hc, hg⟩
  have C3 := Lib.hid hc
  have G3 := Lib.hid (grown_trans G2.out hg)
  clear hc hg
  go_wp2
  go_ret3
  exact ⟨_, _, _, rfl, C3.out, G3.out⟩

theorem draw_PowerSum (v : Value) (xs : List Int) (w : World) (h : Sb w v xs) (hs : xs.length ≤ 1048576) :
    Calls Try.prog 23 #[v] w fun e w' => ∃ z y p : Int, e = .returned (.tuple #[.int .i64 z, .int .i64 y, .int .i64 p]) ∧ Below w.heap.size w w' := by
  have HC := Lib.hid (Cu.start h hs)
  obtain ⟨a, cap, rfl⟩ := h.len
  have HB := Lib.hid (alloc_below w (.cells #[.slice a xs.length cap, .int .i64 0, .int .u64 0] 67))
  clear h
  go_enter Try.func23, Try.ntmps23
  go_wp2_with fail
  refine (powered_any w.heap.size _ xs _ _ HC.out (by omega)).mono ?_
  rintro e w1 ⟨z, y, p, rfl, hc, hg⟩
  have HB1 := Lib.hid (HB.out.trans (grown_below hg (by simp) (Nat.le_refl _)))
  clear hc hg
  go_wp2
  go_ret3
  exact ⟨_, _, _, rfl, HB1.out⟩

theorem draw_PowerRun (v : Value) (xs : List Int) (w : World) (h : Sb w v xs) (hs : xs.length ≤ 1048576) :
    Calls Try.prog 7 #[v] w fun e w' => ∃ z y p : Int, e = .returned (.tuple #[.int .i64 z, .int .i64 y, .int .i64 p]) ∧ Below w.heap.size w w' := by
  have HD := Lib.hid (draw_PowerSum v xs w h hs)
  clear h
  go_enter Try.func7, Try.ntmps7
  go_wp2_with fail
  refine HD.out.mono ?_
  rintro e w1 ⟨z, y, p, rfl, hb⟩
  have HB := Lib.hid hb
  clear hb
  go_wp2
  go_ret3
  exact ⟨_, _, _, rfl, HB.out⟩

theorem draw_FallsFrom (v : Value) (xs : List Int) (w : World) (h : Sb w v xs) (hs : xs.length ≤ 1048576) :
    Calls Try.prog 19 #[v] w fun e w' => ∃ z y : Int, e = .returned (.tuple #[.int .i64 z, .int .i64 y]) ∧ Below w.heap.size w w' := by
  have HC := Lib.hid (Cu.start h hs)
  obtain ⟨a, cap, rfl⟩ := h.len
  have HB := Lib.hid (alloc_below w (.cells #[.slice a xs.length cap, .int .i64 0, .int .u64 0] 67))
  clear h
  go_enter Try.func19, Try.ntmps19
  go_wp2_with fail
  refine (base_any w.heap.size _ xs _ _ HC.out (by omega)).mono ?_
  rintro e w1 ⟨z, rfl, hc, hg⟩
  have C1 := Lib.hid hc
  have HB1 := Lib.hid (HB.out.trans (grown_below hg (by simp) (Nat.le_refl _)))
  clear hc hg
  go_wp2_with fail
  refine (among_at w.heap.size _ xs _ [1, 2, 3, 4, 5, 8, 9, 0] _ C1.out (by omega) (by simp) (by simp) rfl rfl rfl).mono ?_
  rintro e w2 ⟨y, rfl, hc, hg⟩
  have HB2 := Lib.hid (HB1.out.trans (grown_below hg HB1.out.size (Nat.le_refl _)))
  clear hc hg
  go_wp2
  go_ret2
  exact ⟨_, _, rfl, HB2.out⟩

theorem draw_CyclesOfPowers (v : Value) (xs : List Int) (w : World) (h : Sb w v xs) (hs : xs.length ≤ 1048576) :
    Calls Try.prog 26 #[v] w fun e w' => ∃ z y : Int, e = .returned (.tuple #[.int .i64 z, .int .i64 y]) ∧ Below w.heap.size w w' := by
  have HC := Lib.hid (Cu.start h hs)
  obtain ⟨a, cap, rfl⟩ := h.len
  have HB := Lib.hid (alloc_below w (.cells #[.slice a xs.length cap, .int .i64 0, .int .u64 0] 67))
  clear h
  go_enter Try.func26, Try.ntmps26
  go_wp2_with fail
  refine (among_at w.heap.size _ xs _ [2, 3, 4, 5, 6, 7, 8, 9, 10, 11, 1] _ HC.out (by omega) (by simp) (by simp) (World.size_alloc _ _).symm rfl rfl).mono ?_
  rintro e w1 ⟨z, rfl, hc, hg⟩
  have C1 := Lib.hid hc
  have HB1 := Lib.hid (HB.out.trans (grown_below hg (by simp) (Nat.le_refl _)))
  clear hc hg
  go_wp2_with fail
  refine (among_at w.heap.size _ xs _ [1, 2, 2, 3, 3, 4, 5, 0] _ C1.out (by omega) (by simp) (by simp) rfl rfl rfl).mono ?_
  rintro e w2 ⟨y, rfl, hc, hg⟩
  have HB2 := Lib.hid (HB1.out.trans (grown_below hg HB1.out.size (Nat.le_refl _)))
  clear hc hg
  go_wp2
  go_ret2
  exact ⟨_, _, rfl, HB2.out⟩

theorem draw_OwnPowers (v : Value) (xs : List Int) (w : World) (h : Sb w v xs) (hs : xs.length ≤ 1048576) :
    Calls Try.prog 34 #[v] w fun e w' => ∃ z y : Int, e = .returned (.tuple #[.int .i64 z, .int .i64 y]) ∧ Below w.heap.size w w' := by
  have HC := Lib.hid (Cu.start h hs)
  obtain ⟨a, cap, rfl⟩ := h.len
  have HB := Lib.hid (alloc_below w (.cells #[.slice a xs.length cap, .int .i64 0, .int .u64 0] 67))
  clear h
  go_enter Try.func34, Try.ntmps34
  go_wp2_with fail
  refine (among_at w.heap.size _ xs _ [2, 3, 4, 5, 7, 10, 10, 11, 1] _ HC.out (by omega) (by simp) (by simp) (World.size_alloc _ _).symm rfl rfl).mono ?_
  rintro e w1 ⟨z, rfl, hc, hg⟩
  have C1 := Lib.hid hc
  have HB1 := Lib.hid (HB.out.trans (grown_below hg (by simp) (Nat.le_refl _)))
  clear hc hg
  go_wp2_with fail
  refine (among_at w.heap.size _ xs _ [1, 2, 3, 3, 4, 7, 0] _ C1.out (by omega) (by simp) (by simp) rfl rfl rfl).mono ?_
  rintro e w2 ⟨y, rfl, hc, hg⟩
  have HB2 := Lib.hid (HB1.out.trans (grown_below hg HB1.out.size (Nat.le_refl _)))
  clear hc hg
  go_wp2
  go_ret2
  exact ⟨_, _, rfl, HB2.out⟩

theorem draw_Narcissistic (v : Value) (xs : List Int) (w : World) (h : Sb w v xs) (hs : xs.length ≤ 1048576) :
    Calls Try.prog 37 #[v] w fun e w' => ∃ z y : Int, e = .returned (.tuple #[.int .i64 z, .int .i64 y]) ∧ Below w.heap.size w w' := by
  have HC := Lib.hid (Cu.start h hs)
  obtain ⟨a, cap, rfl⟩ := h.len
  have HB := Lib.hid (alloc_below w (.cells #[.slice a xs.length cap, .int .i64 0, .int .u64 0] 67))
  clear h
  go_enter Try.func37, Try.ntmps37
  go_wp2_with fail
  refine (among_at w.heap.size _ xs _ [1, 2, 3, 3, 4, 5, 7, 0] _ HC.out (by omega) (by simp) (by simp) (World.size_alloc _ _).symm rfl rfl).mono ?_
  rintro e w1 ⟨z, rfl, hc, hg⟩
  have C1 := Lib.hid hc
  have HB1 := Lib.hid (HB.out.trans (grown_below hg (by simp) (Nat.le_refl _)))
  clear hc hg
  go_wp2_with fail
  refine (among_at w.heap.size _ xs _ [10, 10, 2, 3, 4, 5, 7, 11, 1] _ C1.out (by omega) (by simp) (by simp) rfl rfl rfl).mono ?_
  rintro e w2 ⟨y, rfl, hc, hg⟩
  have HB2 := Lib.hid (HB1.out.trans (grown_below hg HB1.out.size (Nat.le_refl _)))
  clear hc hg
  go_wp2
  go_ret2
  exact ⟨_, _, rfl, HB2.out⟩

end Go.Proofs.Ytaenpmhnfcleeaa

/- from X3P -/
namespace Go.Proofs.Ytaenpmhnfcleeaa
set_option linter.unusedVariables false
set_option linter.unusedSimpArgs false

theorem it_outP (f : Nat → Nat) (k x : Nat) : it f (k + 1) x = f (it f k x) := rfl
theorem srt_permP (xs : List Int) : (srt xs).Perm xs := List.mergeSort_perm xs _
theorem fold_mem : ∀ (zs : List Int) (a : Int), zs.foldl min a = a ∨ zs.foldl min a ∈ zs
  | [], a => .inl rfl
  | z :: zs, a => by
    rcases fold_mem zs (min a z) with h | h
    · rw [List.foldl_cons, h]
      by_cases hm : a ≤ z
      · left; omega
      · right
        have : min a z = z := by omega
        rw [this]; simp
    · right
      rw [List.foldl_cons]
      simp [h]
theorem fold_le : ∀ (zs : List Int) (a : Int), zs.foldl min a ≤ a ∧ ∀ z ∈ zs, zs.foldl min a ≤ z
  | [], a => ⟨Int.le_refl _, fun z hz => by simp at hz⟩
  | y :: zs, a => by
    obtain ⟨h1, h2⟩ := fold_le zs (min a y)
    rw [List.foldl_cons]
    refine ⟨by omega, fun z hz => ?_⟩
    rcases List.mem_cons.1 hz with rfl | hz
    · omega
    · exact h2 z hz
theorem minOf_facts : ∀ (zs : List Int), zs ≠ [] → Lib.minOf zs ∈ zs ∧ ∀ z ∈ zs, Lib.minOf zs ≤ z
  | [], h => absurd rfl h
  | y :: ys, _ => by
    have e : Lib.minOf (y :: ys) = (y :: ys).foldl min y := rfl
    rw [e]
    refine ⟨?_, (fold_le (y :: ys) y).2⟩
    rcases fold_mem (y :: ys) y with h | h
    · rw [h]; simp
    · exact h

/-- What holds of a run of power sums: r numbers, t of them not on the cycle, e the cycle's least. -/
structure RunF (b p n r t : Nat) (e : Int) : Prop where
  len : r ≤ 1012502
  tail : t < r
  step : ∀ k, k < r → ps b p (it (ps b p) k n) = it (ps b p) (if k + 1 < r then k + 1 else t) n
  bd : ∀ k, it (ps b p) k n ≤ 1000000000000
  ends : ∃ i, t ≤ i ∧ i < r ∧ e = ((it (ps b p) i n : Nat) : Int)
  least : ∀ i, t ≤ i → i < r → e ≤ ((it (ps b p) i n : Nat) : Int)
  top : it (ps b p) t n ≤ gs b p

theorem drop_memR {f : Nat → Nat} {M x t : Nat} {z : Int} (hz : z ∈ (run f M x).drop t) : ∃ i, t ≤ i ∧ i < rl f M x ∧ z = ((it f i x : Nat) : Int) := by
  obtain ⟨j, hj, e⟩ := List.getElem_of_mem hz
  rw [List.getElem_drop] at e
  simp [run] at hj e
  exact ⟨t + j, by omega, by omega, e.symm⟩
theorem mem_dropR {f : Nat → Nat} {M x t i : Nat} (h1 : t ≤ i) (h2 : i < rl f M x) : ((it f i x : Nat) : Int) ∈ (run f M x).drop t := by
  rw [List.mem_iff_getElem]
  refine ⟨i - t, by simp [run]; omega, ?_⟩
  rw [List.getElem_drop]
  simp [run, show t + (i - t) = i by omega]

theorem psl_le (p M : Nat) : ∀ (xs : List Int), (∀ x ∈ xs, x ≤ (M : Int)) → psl p xs ≤ xs.length * M ^ p
  | [], _ => by simp [psl]
  | x :: xs, h => by
    have h1 := psl_le p M xs (fun y hy => h y (by simp [hy]))
    have h2 : x.toNat ^ p ≤ M ^ p := Nat.pow_le_pow_left (by have := h x (by simp); omega) p
    rw [psl_cons, List.length_cons, Nat.succ_mul]
    omega
theorem ps_len {b p m : Nat} (hb : 2 ≤ b) (hp : 1 ≤ p) : ps b p m ≤ (dgs (b : Int) (m : Int)).length * (b - 1) ^ p := by
  rw [← psl_dgs hb hp]
  refine psl_le p (b - 1) _ (fun x hx => ?_)
  have := (dgs_all (b : Int) (m : Int) (by omega) (by omega) x hx).2
  omega
/-- A number with at least so many digits falls. -/
theorem long_falls {b p m : Nat} (hb : 2 ≤ b) (hb' : b ≤ 16) (hp : 1 ≤ p) (hp' : p ≤ 8) (h : ff b p ≤ (dgs (b : Int) (m : Int)).length) : ps b p m < m := by
  have h1 := ps_len (m := m) hb hp
  obtain ⟨i, hi⟩ : ∃ i, (dgs (b : Int) (m : Int)).length = ff b p + i := ⟨(dgs (b : Int) (m : Int)).length - ff b p, by omega⟩
  have h2 := falls_on hb hb' hp hp' i
  have h3 := (ff_spec hb hb' hp hp').1
  rw [hi] at h1
  have h4 : b ^ (ff b p - 1 + i) ≤ m := by
    by_cases hlt : m < b ^ (ff b p - 1 + i)
    · have := dgs_lenb hb (by omega) hlt
      omega
    · omega
  omega
/-- The others have no greater sum than that. -/
theorem short_le {b p m : Nat} (hb : 2 ≤ b) (hp : 1 ≤ p) (h : (dgs (b : Int) (m : Int)).length < ff b p) : ps b p m ≤ gs b p := by
  have h1 := ps_len (m := m) hb hp
  have h2 : (dgs (b : Int) (m : Int)).length * (b - 1) ^ p ≤ (ff b p - 1) * (b - 1) ^ p := Nat.mul_le_mul_right _ (by omega)
  unfold gs
  omega

theorem run_facts {b p n : Nat} (hb : 2 ≤ b) (hb' : b ≤ 16) (hp : 1 ≤ p) (hp' : p ≤ 4) (hn : n ≤ 1000000000000) : RunF b p n (rl (ps b p) PM n) (tl (ps b p) PM n) (endOf (ps b p) PM n) := by
  obtain ⟨s1, s2, s3, s4, s5, s6⟩ := rl_spec (it_ps (p := p) hb hb' hp' hn)
  have hne : (run (ps b p) PM n).drop (tl (ps b p) PM n) ≠ [] := by
    intro h
    have := congrArg List.length h
    simp [run] at this
    omega
  obtain ⟨m1, m2⟩ := minOf_facts _ hne
  obtain ⟨i, i1, i2, i3⟩ := drop_memR m1
  refine ⟨by unfold PM at s2; exact s2, s3, fun k hk => ?_, it_ps_le hb hb' hp' hn, ⟨i, i1, i2, i3⟩, fun j j1 j2 => m2 _ (mem_dropR j1 j2), ?_⟩
  · rw [← it_outP (ps b p) k n]
    by_cases h : k + 1 < rl (ps b p) PM n
    · rw [if_pos h]
    · rw [if_neg h, s4, show k + 1 = rl (ps b p) PM n by omega]
  · obtain ⟨f, hf⟩ : ∃ f, f = ps b p := ⟨_, rfl⟩
    obtain ⟨r, hr⟩ : ∃ r, r = rl f PM n := ⟨_, rfl⟩
    obtain ⟨t, ht⟩ : ∃ t, t = tl f PM n := ⟨_, rfl⟩
    rw [← hf, ← ht] at s3 ⊢
    rw [← hf, ← ht, ← hr] at s4
    rw [← hr] at s3
    have per : ∀ (m i : Nat), t ≤ i → it f (i + m * (r - t)) n = it f i n := by
      intro m
      induction m with
      | zero => intro i hi; simp
      | succ m ih =>
        intro i hi
        have e : i + (m + 1) * (r - t) = (i + m * (r - t) - t) + r := by rw [Nat.succ_mul]; omega
        have e2 : i + m * (r - t) = (i + m * (r - t) - t) + t := by omega
        rw [e, it_add, ← s4, ← it_add, ← e2, ih i hi]
    -- were it greater, each number before it on the round were greater still
    by_cases hle : it f t n ≤ gs b p
    · exact hle
    · exfalso
      have back : ∀ k, k ≤ t + (r - t) * (t + (it f t n + 1)) → gs b p < it f (t + (r - t) * (t + (it f t n + 1)) - k) n ∧ it f t n + k ≤ it f (t + (r - t) * (t + (it f t n + 1)) - k) n := by
        intro k
        induction k with
        | zero =>
          intro _
          have := per (t + (it f t n + 1)) t (Nat.le_refl _)
          rw [Nat.mul_comm] at this
          rw [Nat.sub_zero, this]
          omega
        | succ k ih =>
          intro hk
          obtain ⟨g1, g2⟩ := ih (by omega)
          obtain ⟨q, hq⟩ : ∃ q, t + (r - t) * (t + (it f t n + 1)) - (k + 1) = q := ⟨_, rfl⟩
          have e : t + (r - t) * (t + (it f t n + 1)) - k = q + 1 := by omega
          rw [e, it_outP] at g1 g2
          rw [hq]
          have hl : ff b p ≤ (dgs (b : Int) ((it f q n : Nat) : Int)).length := by
            by_cases h : ff b p ≤ (dgs (b : Int) ((it f q n : Nat) : Int)).length
            · exact h
            · have := short_le (p := p) hb hp (show (dgs (b : Int) ((it f q n : Nat) : Int)).length < ff b p by omega)
              rw [← hf] at this
              omega
          have hfall := long_falls hb hb' hp (by omega) hl
          rw [← hf] at hfall
          omega
      have hbig : t + (it f t n + 1) ≤ (r - t) * (t + (it f t n + 1)) := Nat.le_mul_of_pos_left _ (by omega)
      obtain ⟨Z, hZ⟩ : ∃ Z, Z = (r - t) * (t + (it f t n + 1)) := ⟨_, rfl⟩
      rw [← hZ] at hbig back
      obtain ⟨c1, c2⟩ := back Z (by omega)
      rw [show t + Z - Z = t by omega] at c2
      omega

theorem ps_digit {b p q d : Nat} (hb : 2 ≤ b) (hp : 1 ≤ p) (hd : d < b) : ps b p (q * b + d) = d ^ p + ps b p q := by
  by_cases h0 : q * b + d = 0
  · have hd0 : d = 0 := by omega
    have hq0 : q = 0 := by
      rcases Nat.eq_zero_or_pos q with h | h
      · exact h
      · have := Nat.mul_le_mul h hb; omega
    subst hd0 hq0
    rw [Nat.zero_mul, ps_zero, Nat.zero_pow (by omega)]
  · rw [ps_step p hb (by omega)]
    have m : (q * b + d) % b = d := by rw [Nat.add_comm, Nat.add_mul_mod_self_right, Nat.mod_eq_of_lt hd]
    have dv : (q * b + d) / b = q := by rw [Nat.add_comm, Nat.add_mul_div_right _ _ (by omega), Nat.div_eq_of_lt hd, Nat.zero_add]
    rw [m, dv]
theorem ps_val {b p : Nat} (hb : 2 ≤ b) (hp : 1 ≤ p) : ∀ (xs : List Int) (a : Nat), (∀ x ∈ xs, 0 ≤ x ∧ x ≤ (b : Int) - 1) → ∃ v : Nat, val (b : Int) xs (a : Int) = (v : Int) ∧ ps b p v = ps b p a + psl p xs
  | [], a, _ => ⟨a, rfl, by simp [psl]⟩
  | x :: xs, a, h => by
    obtain ⟨h1, h2⟩ := h x (by simp)
    obtain ⟨d, rfl⟩ : ∃ d : Nat, x = (d : Int) := ⟨x.toNat, by omega⟩
    obtain ⟨v, e1, e2⟩ := ps_val hb hp xs (a * b + d) (fun y hy => h y (by simp [hy]))
    refine ⟨v, ?_, ?_⟩
    · rw [val, ← e1]
      simp
    · rw [e2, ps_digit hb hp (by omega), psl_cons, Int.toNat_natCast]
      omega
/-- Sorted digits have the same power sum. -/
theorem ps_sorted {b p n : Nat} {m : Int} (hb : 2 ≤ b) (hp : 1 ≤ p) (h : numF (b : Int) (srt (dgs (b : Int) (n : Int))) 0 = some m) : ∃ v : Nat, m = (v : Int) ∧ v ≤ 1000000000000 ∧ ps b p v = ps b p n := by
  have hd := dgs_all (b : Int) (n : Int) (by omega) (by omega)
  have ha : ∀ x ∈ srt (dgs (b : Int) (n : Int)), 0 ≤ x ∧ x ≤ (b : Int) - 1 := fun x hx => hd x (srt_mem.1 hx)
  rw [numF_val (b : Int) (by omega) _ 0 (fun x hx => (ha x hx).1) (by omega) (by omega)] at h
  obtain ⟨v, e1, e2⟩ := ps_val hb hp _ 0 ha
  rw [show ((0 : Nat) : Int) = 0 from rfl] at e1
  rw [e1] at h
  by_cases hv : (v : Int) ≤ 1000000000000
  · rw [if_pos hv] at h
    refine ⟨v, (Option.some.inj h).symm, by omega, ?_⟩
    rw [e2, ps_zero, Nat.zero_add, psl_perm p (srt_permP _), psl_dgs hb hp]
  · rw [if_neg hv] at h
    cases h

end Go.Proofs.Ytaenpmhnfcleeaa

/- from X3R -/
namespace Go.Proofs.Ytaenpmhnfcleeaa
open Go.RowKit
set_option linter.unusedVariables false
set_option linter.unusedSimpArgs false
set_option maxRecDepth 100000

theorem ok38_cases (n b p : Int) : (OK3 n b p 8 = true ∧ ∃ N B P : Nat, n = (N : Int) ∧ b = (B : Int) ∧ p = (P : Int) ∧ N ≤ 1000000000000 ∧ 2 ≤ B ∧ B ≤ 16 ∧ 1 ≤ P ∧ P ≤ 8) ∨ OK3 n b p 8 = false := by
  cases h : OK3 n b p 8
  · exact .inr rfl
  · obtain ⟨h1, h2, h3⟩ := of_decide_eq_true h
    obtain ⟨h1a, h1b⟩ := h1
    obtain ⟨h2a, h2b⟩ := h2
    obtain ⟨h3a, h3b⟩ := h3
    exact .inl ⟨rfl, n.toNat, b.toNat, p.toNat, by omega, by omega, by omega, by omega, by omega, by omega, by omega, by omega⟩
/-- What PowerSum answers at numbers that may ask. -/
theorem power_at {N B P : Nat} (hN : N ≤ 1000000000000) (hB : 2 ≤ B) (hB2 : B ≤ 16) (hP : 1 ≤ P) (hP2 : P ≤ 8) (w : World) :
    Calls Try.prog 16 #[.int .i64 (N : Int), .int .i64 (B : Int), .int .i64 (P : Int)] w fun e w' => e = .returned (.tuple #[.int .i64 ((ps B P N : Nat) : Int), .bool true]) ∧ Below w.heap.size w w' := by
  have h := impl_PowerSum (N : Int) (B : Int) (P : Int) w
  have eO : OK3 (N : Int) (B : Int) (P : Int) 8 = true := OK3_yes ⟨by omega, by omega⟩ ⟨by omega, by omega⟩ ⟨by omega, by omega⟩
  have eP : V_PowerSum (N : Int) (B : Int) (P : Int) = ((ps B P N : Nat) : Int) := by unfold V_PowerSum; rw [if_pos eO]; rfl
  simp only [R_PowerSum] at h
  rw [eP, eO] at h
  exact h
theorem greatest_at {B P : Nat} (hB : 2 ≤ B) (hB2 : B ≤ 16) (hP : 1 ≤ P) (hP2 : P ≤ 8) (w : World) :
    Calls Try.prog 17 #[.int .i64 (B : Int), .int .i64 (P : Int)] w fun e w' => e = .returned (.tuple #[.int .i64 ((gs B P : Nat) : Int), .bool true]) ∧ Below w.heap.size w w' := by
  have h := impl_GreatestSum (B : Int) (P : Int) w
  have eO : OK2 (B : Int) (P : Int) 8 = true := OK2_yes ⟨by omega, by omega⟩ ⟨by omega, by omega⟩
  have eP : V_GreatestSum (B : Int) (P : Int) = ((gs B P : Nat) : Int) := by unfold V_GreatestSum; rw [if_pos eO]; rfl
  simp only [R_GreatestSum] at h
  rw [eP, eO] at h
  exact h
theorem falls_at {B P : Nat} (hB : 2 ≤ B) (hB2 : B ≤ 16) (hP : 1 ≤ P) (hP2 : P ≤ 8) (w : World) :
    Calls Try.prog 20 #[.int .i64 (B : Int), .int .i64 (P : Int)] w fun e w' => e = .returned (.tuple #[.int .i64 ((ff B P : Nat) : Int), .bool true]) ∧ Below w.heap.size w w' := by
  have h := impl_FallsFrom (B : Int) (P : Int) w
  have eO : OK2 (B : Int) (P : Int) 8 = true := OK2_yes ⟨by omega, by omega⟩ ⟨by omega, by omega⟩
  have eP : V_FallsFrom (B : Int) (P : Int) = ((ff B P : Nat) : Int) := by unfold V_FallsFrom; rw [if_pos eO]; rfl
  simp only [R_FallsFrom] at h
  rw [eP, eO] at h
  exact h
theorem count_at {N B : Nat} (hN : N ≤ 1000000000000) (hB : 2 ≤ B) (hB2 : B ≤ 16) (w : World) :
    Calls Try.prog 25 #[.int .i64 (N : Int), .int .i64 (B : Int)] w fun e w' => e = .returned (.tuple #[.int .i64 (((dgs (B : Int) (N : Int)).length : Nat) : Int), .bool true]) ∧ Below w.heap.size w w' := by
  have h := impl_CountDigits (N : Int) (B : Int) w
  have eO : askI RCountDigits (N : Int) (B : Int) = some (((dgs (B : Int) (N : Int)).length : Nat) : Int) := if_pos ⟨⟨by omega, by omega⟩, by omega, by omega⟩
  rw [eO] at h
  exact h
/-- What SortedUp answers: nothing, or a number of the same power sum. -/
theorem sorted_at {N B P : Nat} (hN : N ≤ 1000000000000) (hB : 2 ≤ B) (hB2 : B ≤ 16) (hP : 1 ≤ P) : (∀ w : World,
    Calls Try.prog 18 #[.int .i64 (N : Int), .int .i64 (B : Int)] w fun e w' => e = .returned (.tuple #[.int .i64 0, .bool false]) ∧ Below w.heap.size w w') ∨ ∃ V : Nat, V ≤ 1000000000000 ∧ ps B P V = ps B P N ∧ ∀ w : World,
    Calls Try.prog 18 #[.int .i64 (N : Int), .int .i64 (B : Int)] w fun e w' => e = .returned (.tuple #[.int .i64 (V : Int), .bool true]) ∧ Below w.heap.size w w' := by
  have h := fun w => impl_SortedUp (N : Int) (B : Int) w
  have eO : askF RSortedUp (N : Int) (B : Int) = numF (B : Int) (srt (dgs (B : Int) (N : Int))) 0 := if_pos ⟨⟨by omega, by omega⟩, by omega, by omega⟩
  rw [eO] at h
  cases hm : numF (B : Int) (srt (dgs (B : Int) (N : Int))) 0 with
  | none => rw [hm] at h; exact .inl h
  | some m =>
    obtain ⟨V, rfl, hV, hps⟩ := ps_sorted hB hP hm
    rw [hm] at h
    exact .inr ⟨V, hV, hps, h⟩

set_option maxHeartbeats 20000000 in
theorem law_PowerRunsEnd {W : World} (v0 : Value) (xs0 : List Int) (hs0 : Sb W v0 xs0) (v1 : Value) (xs1 : List Int) (hs1 : Sb W v1 xs1) :
    Calls Try.prog 3 #[v0, v1] W fun e w' => e = .returned (.bool true) ∧ Below W.heap.size W w' := by
  obtain ⟨a0, k0, rfl⟩ := hs0.len
  obtain ⟨a1, k1, rfl⟩ := hs1.len
  have HS0 := Lib.hid hs0
  have HS1 := Lib.hid hs1
  have HB := Lib.hid (big_any a0 a1 xs0.length xs1.length k0 k1 W)
  clear hs0 hs1
  by_cases hbig : 1048576 < xs0.length ∨ 1048576 < xs0.length + xs1.length
  · rw [decide_eq_true hbig] at HB
    go_enter Try.func3, Try.ntmps3
    go_wp2_with (go_at_call 6; refine HB.out.mono ?_; rintro e w ⟨rfl, rfl⟩)
    go_ret
    exact ⟨rfl, Below.refl _ _⟩
  rw [decide_eq_false hbig] at HB
  have hl0 : xs0.length ≤ 1048576 := by omega
  have hl1 : xs1.length ≤ 1048576 := by omega
  have HL1 := Lib.hid hl1
  clear hbig
  go_enter Try.func3, Try.ntmps3
  go_wp2_with fail
  refine HB.out.mono ?_
  rintro e w ⟨rfl, rfl⟩
  go_wp2_with fail
  refine (draw_PowerRun _ xs0 _ HS0.out hl0).mono ?_
  rintro e w1 ⟨n, b, p, rfl, hb⟩
  have BE1 := Lib.hid hb
  clear hb hl0 hl1
  have HI1 := Lib.hid (fun w => impl_PowerRun n b p w)
  have HT1 := Lib.hid (fun w => spec_PowerRun n b p w)
  have HI2 := Lib.hid (fun w => impl_PowerTail n b p w)
  have HT2 := Lib.hid (fun w => spec_PowerTail n b p w)
  have HI3 := Lib.hid (fun w => impl_EndsIn n b p w)
  have HT3 := Lib.hid (fun w => spec_EndsIn n b p w)
  rcases ok3_cases n b p with ⟨hok, N, B, P, rfl, rfl, rfl, hN, hB, hB2, hP, hP2⟩ | hno
  · skip
    have HRF := Lib.hid (run_facts hB hB2 hP hP2 hN)
    have eL : LF_PowerRun (N : Int) (B : Int) (P : Int) = run (ps B P) PM N := by unfold LF_PowerRun; rw [if_pos hok]; rfl
    have eT : VT_PowerTail (N : Int) (B : Int) (P : Int) = ((tl (ps B P) PM N : Nat) : Int) := by unfold VT_PowerTail; rw [if_pos hok]; rfl
    have eC : VC_PowerTail (N : Int) (B : Int) (P : Int) = ((rl (ps B P) PM N - tl (ps B P) PM N : Nat) : Int) := by unfold VC_PowerTail; rw [if_pos hok]; rfl
    have eE : V_EndsIn (N : Int) (B : Int) (P : Int) = endOf (ps B P) PM N := by unfold V_EndsIn; rw [if_pos hok]; rfl
    simp only [R_PowerTail] at HI2 HT2
    simp only [R_EndsIn] at HI3 HT3
    rw [eL, hok] at HI1 HT1
    rw [eT, eC, hok] at HI2 HT2
    rw [eE, hok] at HI3 HT3
    have HLL := Lib.hid (run_len (ps B P) PM N)
    have HEM := Lib.hid (show endOf (ps B P) PM N ∈ (run (ps B P) PM N).drop (tl (ps B P) PM N) by
      obtain ⟨i, h1, h2, h3⟩ := HRF.out.ends
      rw [h3]
      exact mem_dropR h1 h2)
    have HGT := Lib.hid (show ∀ k, k < rl (ps B P) PM N → (run (ps B P) PM N)[k]? = some ((it (ps B P) k N : Nat) : Int) by intro k hk; simp [run, hk])
    obtain ⟨XS, hXS⟩ : ∃ XS, XS = run (ps B P) PM N := ⟨_, rfl⟩
    obtain ⟨r, hr⟩ : ∃ r, r = rl (ps B P) PM N := ⟨_, rfl⟩
    obtain ⟨t, ht⟩ : ∃ t, t = tl (ps B P) PM N := ⟨_, rfl⟩
    obtain ⟨E, hE⟩ : ∃ E, E = endOf (ps B P) PM N := ⟨_, rfl⟩
    rw [← hXS] at HI1 HT1 HLL HEM HGT
    rw [← hr] at HI2 HT2 HLL HGT HRF
    rw [← ht] at HI2 HT2 HEM HRF
    rw [← hE] at HI3 HT3 HEM HRF
    clear hXS hr ht hE eL eT eC eE hok
    have hrl := HRF.out.len
    have htr := HRF.out.tail
    obtain ⟨lc, hlc⟩ : ∃ lc, lc = r - t := ⟨_, rfl⟩
    rw [← hlc] at HI2 HT2
    have hlc2 : (t : Int) + (lc : Int) = (r : Int) := by omega
    have HPA := Lib.hid (fun (x : Nat) (hx : x ≤ 1000000000000) w => power_at hx hB hB2 hP (by omega) w)
    have HGR := Lib.hid (fun w => greatest_at hB hB2 hP (by omega) w)
    have HSO := Lib.hid (sorted_at hN hB hB2 hP)
    go_wp2_with fail
    refine (HI1.out _).mono ?_
    rintro e w2 ⟨uD, rfl, hr, hb⟩
    have BE2 := Lib.hid (BE1.out.trans (hb.mono BE1.out.size))
    have R1 := Lib.hid hr
    clear hr hb
    go_wp2_with fail
    refine (HT1.out _).mono ?_
    rintro e w3 ⟨uE, rfl, hr, hb⟩
    have R2 := Lib.hid (R1.out.keep hb)
    have BE3 := Lib.hid (BE2.out.trans (hb.mono BE2.out.size))
    have R3 := Lib.hid hr
    clear hr hb
    go_wp2_with fail
    refine (HI2.out _).mono ?_
    rintro e w4 ⟨rfl, hb⟩
    have R4 := Lib.hid (R2.out.keep hb)
    have R5 := Lib.hid (R3.out.keep hb)
    have BE4 := Lib.hid (BE3.out.trans (hb.mono BE3.out.size))
    clear hb
    go_wp2_with fail
    refine (HT2.out _).mono ?_
    rintro e w5 ⟨rfl, hb⟩
    have R6 := Lib.hid (R4.out.keep hb)
    have R7 := Lib.hid (R5.out.keep hb)
    have BE5 := Lib.hid (BE4.out.trans (hb.mono BE4.out.size))
    clear hb
    go_wp2_with fail
    refine (HI3.out _).mono ?_
    rintro e w6 ⟨rfl, hb⟩
    have R8 := Lib.hid (R6.out.keep hb)
    have R9 := Lib.hid (R7.out.keep hb)
    have BE6 := Lib.hid (BE5.out.trans (hb.mono BE5.out.size))
    clear hb
    go_wp2_with fail
    refine (HT3.out _).mono ?_
    rintro e w7 ⟨rfl, hb⟩
    have R10 := Lib.hid (R8.out.keep hb)
    have R11 := Lib.hid (R9.out.keep hb)
    have BE7 := Lib.hid (BE6.out.trans (hb.mono BE6.out.size))
    clear hb
    go_wp2_with fail
    refine (rSame_any _ _ XS _ R10.out.sl R11.out.sl (by rw [HLL.out]; omega)).mono ?_
    rintro e w8 ⟨rfl, hb⟩
    have R12 := Lib.hid (R10.out.keep hb)
    have R13 := Lib.hid (R11.out.keep hb)
    have BE8 := Lib.hid (BE7.out.trans (hb.mono BE7.out.size))
    clear hb
    obtain ⟨ga, gc, hga, hgc, hlies⟩ := rd_liesW R12.out
    rw [HLL.out] at hga hgc hlies
    obtain ⟨g, rfl, hg, hcell⟩ : ∃ g, ga = some ⟨g, 0, none⟩ ∧ g < w8.heap.size ∧ ∀ (j : Nat) x, XS[j]? = some x → w8.cell? ⟨g, j, none⟩ = some (.int .i64 x) := by
      rcases hlies with h0 | h0
      · exfalso; omega
      · exact h0
    have HCE := Lib.hid hcell
    have z0 := hcell 0 _ (HGT.out 0 (by omega))
    rw [show it (ps B P) 0 N = N from rfl] at z0
    have HSRC := Lib.hid (Src0.drop hcell t)
    clear hlies hcell
    subst hga
    have hle1 : (t : Int) ≤ (r : Int) := by omega
    have hle2 : (r : Int) ≤ (gc : Int) := by omega
    go_wp2_with fail
    refine (rHas_any _ (XS.drop t) _ _ E _ HSRC.out (by rw [List.length_drop, HLL.out]) (by omega)).mono ?_
    rintro e wx ⟨rfl, rfl⟩
    rw [decide_eq_true HEM.out]
    clear z0
    go_wp2
    go_loopw [179] (fun i wr => ∃ k : Nat, k ≤ r ∧ i = .int .i64 (k : Int) ∧ Below w8.heap.size w8 wr) (fun i _ => r - (intOf i).toNat)
    case atStart => exact ⟨0, Nat.zero_le _, rfl, Below.refl _ _⟩
    case round =>
      obtain ⟨k, hk, rfl, hb⟩ := hrel
      have KB := Lib.hid hb
      clear hb
      by_cases hlt : k < r
      · have z1 := (KB.out.cell (p := ⟨g, k, none⟩) hg).trans (HCE.out k _ (HGT.out k hlt))
        have HST := Lib.hid (HRF.out.step k hlt)
        have hxb := HRF.out.bd k
        have HPX := Lib.hid (HPA.out _ hxb)
        have HLE := Lib.hid (fun h => HRF.out.least k h hlt)
        obtain ⟨x, hx⟩ : ∃ x, x = it (ps B P) k N := ⟨_, rfl⟩
        rw [← hx] at z1 HST hxb HPX HLE
        by_cases hnx : k + 1 < r
        · have hnx2 : (k : Int) + 1 < (r : Int) := by omega
          rw [if_pos hnx] at HST
          have z2 := HCE.out (k + 1) _ (HGT.out (k + 1) (by omega))
          rw [← HST.out] at z2
          obtain ⟨y, hy⟩ : ∃ y, y = ps B P x := ⟨_, rfl⟩
          rw [← hy] at z2 HPX
          clear hx hy
          have HLT := Lib.hid hlt
          have HZ2 := Lib.hid z2
          clear z2
          go_wp2_with fail
          refine (HPX.out _).mono ?_
          rintro e u5 ⟨rfl, hb⟩
          have KB2 := Lib.hid (KB.out.trans (hb.mono KB.out.size))
          clear hb z1
          have z3 := (KB2.out.cell (p := ⟨g, (k + 1), none⟩) hg).trans HZ2.out
          by_cases htk : t ≤ k
          · have htk2 : (t : Int) ≤ (k : Int) := by omega
            have hle3 : ¬ (x : Int) < E := by have := HLE.out htk; omega
            go_wp2
            go_roundw
            case rel => exact ⟨k + 1, by have := HLT.out; omega, by go_num, KB2.out⟩
            case measure => simp [intOf]; omega
          · have htk2 : ¬ (t : Int) ≤ (k : Int) := by omega
            go_wp2
            go_roundw
            case rel => exact ⟨k + 1, by have := HLT.out; omega, by go_num, KB2.out⟩
            case measure => simp [intOf]; omega
        · have hnx2 : ¬ (k : Int) + 1 < (r : Int) := by omega
          rw [if_neg hnx] at HST
          have z2 := HCE.out t _ (HGT.out t (by omega))
          rw [← HST.out] at z2
          obtain ⟨y, hy⟩ : ∃ y, y = ps B P x := ⟨_, rfl⟩
          rw [← hy] at z2 HPX
          clear hx hy
          have HLT := Lib.hid hlt
          have HZ2 := Lib.hid z2
          clear z2
          go_wp2_with fail
          refine (HPX.out _).mono ?_
          rintro e u5 ⟨rfl, hb⟩
          have KB2 := Lib.hid (KB.out.trans (hb.mono KB.out.size))
          clear hb z1
          have z3 := (KB2.out.cell (p := ⟨g, t, none⟩) hg).trans HZ2.out
          by_cases htk : t ≤ k
          · have htk2 : (t : Int) ≤ (k : Int) := by omega
            have hle3 : ¬ (x : Int) < E := by have := HLE.out htk; omega
            go_wp2
            go_roundw
            case rel => exact ⟨k + 1, by have := HLT.out; omega, by go_num, KB2.out⟩
            case measure => simp [intOf]; omega
          · exfalso; have := HLT.out; omega
      · obtain rfl : k = r := by omega
        have BEX := Lib.hid (BE8.out.trans (KB.out.mono BE8.out.size))
        have z4 := (KB.out.cell (p := ⟨g, t, none⟩) hg).trans (HCE.out t _ (HGT.out t htr))
        have htop := HRF.out.top
        obtain ⟨xt, hxt⟩ : ∃ xt, xt = it (ps B P) t N := ⟨_, rfl⟩
        rw [← hxt] at z4 htop
        obtain ⟨Gr, hGr⟩ : ∃ Gr, Gr = gs B P := ⟨_, rfl⟩
        rw [← hGr] at htop HGR
        clear hxt hGr
        have HZ4 := Lib.hid z4
        clear z4
        have BE100 := BEX
        go_wp2_with fail
        refine (HGR.out _).mono ?_
        rintro e w101 ⟨rfl, hb⟩
        have z5 := (hb.cell (p := ⟨g, t, none⟩) (Nat.lt_of_lt_of_le hg KB.out.size)).trans HZ4.out
        have BE101 := Lib.hid (BE100.out.trans (hb.mono BE100.out.size))
        clear hb
        have htop2 : ¬ (Gr : Int) < (xt : Int) := by omega
        have htr2 : (t : Int) < (k : Int) := by omega
        rcases HSO.out with HNONE | ⟨V, hV, hVs, HSOME⟩
        · have HN1 := Lib.hid HNONE
          go_wp2_with fail
          refine (HN1.out _).mono ?_
          rintro e w102 ⟨rfl, hb⟩
          have BE102 := Lib.hid (BE101.out.trans (hb.mono BE101.out.size))
          clear hb
          clear z5
          as_aux_lemma =>
            go_wp2_with fail
            refine (draw_FallsFrom _ xs1 _ (HS1.out.keep BE102.out) HL1.out).mono ?_
            rintro e y1 ⟨c, q, rfl, hb⟩
            have BE103 := Lib.hid (BE102.out.trans (hb.mono BE102.out.size))
            clear hb
            have HU1 := Lib.hid (fun w => impl_FallsFrom c q w)
            have HU2 := Lib.hid (fun w => spec_FallsFrom c q w)
            have HU3 := Lib.hid (fun w => impl_GreatestSum c q w)
            have HU4 := Lib.hid (fun w => spec_GreatestSum c q w)
            simp only [R_FallsFrom, R_GreatestSum] at HU1 HU2 HU3 HU4
            obtain ⟨z1, hz1⟩ : ∃ z1, z1 = V_FallsFrom c q := ⟨_, rfl⟩
            obtain ⟨z2, hz2⟩ : ∃ z2, z2 = V_GreatestSum c q := ⟨_, rfl⟩
            obtain ⟨q1, hq1⟩ : ∃ q1, q1 = OK2 c q 8 := ⟨_, rfl⟩
            rw [← hz1, ← hq1] at HU1 HU2
            rw [← hz2, ← hq1] at HU3 HU4
            clear hz1 hz2 hq1
            go_wp2_with fail
            refine (HU1.out _).mono ?_
            rintro e w104 ⟨rfl, hb⟩
            have BE104 := Lib.hid (BE103.out.trans (hb.mono BE103.out.size))
            clear hb
            go_wp2_with fail
            refine (HU2.out _).mono ?_
            rintro e w105 ⟨rfl, hb⟩
            have BE105 := Lib.hid (BE104.out.trans (hb.mono BE104.out.size))
            clear hb
            go_wp2_with fail
            refine (HU3.out _).mono ?_
            rintro e w106 ⟨rfl, hb⟩
            have BE106 := Lib.hid (BE105.out.trans (hb.mono BE105.out.size))
            clear hb
            go_wp2_with fail
            refine (HU4.out _).mono ?_
            rintro e w107 ⟨rfl, hb⟩
            have BE107 := Lib.hid (BE106.out.trans (hb.mono BE106.out.size))
            clear hb
            go_wp2_with fail
            refine (draw_PowerSum _ xs1 _ (HS1.out.keep BE107.out) HL1.out).mono ?_
            rintro e y2 ⟨m, d, f, rfl, hb⟩
            have BE108 := Lib.hid (BE107.out.trans (hb.mono BE107.out.size))
            clear hb
            rcases ok38_cases m d f with ⟨hok, M, D, F, rfl, rfl, rfl, hM, hD, hD2, hF, hF2⟩ | hno
            · have HH1 := Lib.hid (fun w => power_at hM hD hD2 hF hF2 w)
              have HH2 := Lib.hid (fun w => spec_PowerSum (M : Int) (D : Int) (F : Int) w)
              have eP : V_PowerSum (M : Int) (D : Int) (F : Int) = ((ps D F M : Nat) : Int) := by unfold V_PowerSum; rw [if_pos hok]; rfl
              simp only [R_PowerSum] at HH2
              rw [eP, hok] at HH2
              have HG := Lib.hid (fun w => greatest_at hD hD2 hF hF2 w)
              have HFF := Lib.hid (fun w => falls_at hD hD2 hF hF2 w)
              have HCD := Lib.hid (fun w => count_at hM hD hD2 w)
              have HLO := Lib.hid (fun h => long_falls (m := M) hD hD2 hF hF2 h)
              have HSH := Lib.hid (fun h => short_le (m := M) hD hF h)
              obtain ⟨S, hS⟩ : ∃ S, S = ps D F M := ⟨_, rfl⟩
              obtain ⟨Gr, hGr⟩ : ∃ Gr, Gr = gs D F := ⟨_, rfl⟩
              obtain ⟨Fl, hFl⟩ : ∃ Fl, Fl = ff D F := ⟨_, rfl⟩
              obtain ⟨Dg, hDg⟩ : ∃ Dg, Dg = (dgs (D : Int) (M : Int)).length := ⟨_, rfl⟩
              rw [← hS] at HH1 HH2 HLO HSH
              rw [← hGr] at HG HSH
              rw [← hFl] at HFF HLO HSH
              rw [← hDg] at HCD HLO HSH
              clear hS hGr hFl hDg eP hok
              go_wp2_with fail
              refine (HH1.out _).mono ?_
              rintro e w109 ⟨rfl, hb⟩
              have BE109 := Lib.hid (BE108.out.trans (hb.mono BE108.out.size))
              clear hb
              go_wp2_with fail
              refine (HH2.out _).mono ?_
              rintro e w110 ⟨rfl, hb⟩
              have BE110 := Lib.hid (BE109.out.trans (hb.mono BE109.out.size))
              clear hb
              go_wp2_with fail
              refine (HFF.out _).mono ?_
              rintro e w111 ⟨rfl, hb⟩
              have BE111 := Lib.hid (BE110.out.trans (hb.mono BE110.out.size))
              clear hb
              go_wp2_with fail
              refine (HCD.out _).mono ?_
              rintro e w112 ⟨rfl, hb⟩
              have BE112 := Lib.hid (BE111.out.trans (hb.mono BE111.out.size))
              clear hb
              go_wp2_with fail
              refine (HG.out _).mono ?_
              rintro e w113 ⟨rfl, hb⟩
              have BE113 := Lib.hid (BE112.out.trans (hb.mono BE112.out.size))
              clear hb
              by_cases hlong : Fl ≤ Dg
              · have hl1 : ¬ (Dg : Int) < (Fl : Int) := by omega
                have hl2 : (Fl : Int) ≤ (Dg : Int) := by omega
                have hl3 : (S : Int) < (M : Int) := by have := HLO.out hlong; omega
                clear hlong
                go_wp2
                go_ret
                exact ⟨rfl, BE113.out⟩
              · have hl1 : (Dg : Int) < (Fl : Int) := by omega
                have hl2 : ¬ (Fl : Int) ≤ (Dg : Int) := by omega
                have hl3 : (S : Int) ≤ (Gr : Int) := by have := HSH.out (by omega); omega
                clear hlong
                go_wp2
                go_ret
                exact ⟨rfl, BE113.out⟩
            · have HH1 := Lib.hid (fun w => impl_PowerSum m d f w)
              have HH2 := Lib.hid (fun w => spec_PowerSum m d f w)
              simp only [R_PowerSum] at HH1 HH2
              rw [hno] at HH1 HH2
              obtain ⟨S, hS⟩ : ∃ S, S = V_PowerSum m d f := ⟨_, rfl⟩
              rw [← hS] at HH1 HH2
              clear hS hno
              go_wp2_with fail
              refine (HH1.out _).mono ?_
              rintro e w109 ⟨rfl, hb⟩
              have BE109 := Lib.hid (BE108.out.trans (hb.mono BE108.out.size))
              clear hb
              go_wp2_with fail
              refine (HH2.out _).mono ?_
              rintro e w110 ⟨rfl, hb⟩
              have BE110 := Lib.hid (BE109.out.trans (hb.mono BE109.out.size))
              clear hb
              go_wp2
              go_ret
              exact ⟨rfl, BE110.out⟩
        · have HN1 := Lib.hid HSOME
          have HP1 := Lib.hid (HPA.out V hV)
          have HP2 := Lib.hid (HPA.out N hN)
          rw [hVs] at HP1
          obtain ⟨sq, hsq⟩ : ∃ sq, sq = ps B P N := ⟨_, rfl⟩
          rw [← hsq] at HP1 HP2
          clear hsq hVs HSOME
          go_wp2_with fail
          refine (HN1.out _).mono ?_
          rintro e w102 ⟨rfl, hb⟩
          have BE102 := Lib.hid (BE101.out.trans (hb.mono BE101.out.size))
          clear hb
          clear z5
          go_wp2_with fail
          refine (HP1.out _).mono ?_
          rintro e w103 ⟨rfl, hb⟩
          have BE103 := Lib.hid (BE102.out.trans (hb.mono BE102.out.size))
          clear hb
          go_wp2_with fail
          refine (HP2.out _).mono ?_
          rintro e w104 ⟨rfl, hb⟩
          have BE104 := Lib.hid (BE103.out.trans (hb.mono BE103.out.size))
          clear hb
          as_aux_lemma =>
            go_wp2_with fail
            refine (draw_FallsFrom _ xs1 _ (HS1.out.keep BE104.out) HL1.out).mono ?_
            rintro e y1 ⟨c, q, rfl, hb⟩
            have BE105 := Lib.hid (BE104.out.trans (hb.mono BE104.out.size))
            clear hb
            have HU1 := Lib.hid (fun w => impl_FallsFrom c q w)
            have HU2 := Lib.hid (fun w => spec_FallsFrom c q w)
            have HU3 := Lib.hid (fun w => impl_GreatestSum c q w)
            have HU4 := Lib.hid (fun w => spec_GreatestSum c q w)
            simp only [R_FallsFrom, R_GreatestSum] at HU1 HU2 HU3 HU4
            obtain ⟨z1, hz1⟩ : ∃ z1, z1 = V_FallsFrom c q := ⟨_, rfl⟩
            obtain ⟨z2, hz2⟩ : ∃ z2, z2 = V_GreatestSum c q := ⟨_, rfl⟩
            obtain ⟨q1, hq1⟩ : ∃ q1, q1 = OK2 c q 8 := ⟨_, rfl⟩
            rw [← hz1, ← hq1] at HU1 HU2
            rw [← hz2, ← hq1] at HU3 HU4
            clear hz1 hz2 hq1
            go_wp2_with fail
            refine (HU1.out _).mono ?_
            rintro e w106 ⟨rfl, hb⟩
            have BE106 := Lib.hid (BE105.out.trans (hb.mono BE105.out.size))
            clear hb
            go_wp2_with fail
            refine (HU2.out _).mono ?_
            rintro e w107 ⟨rfl, hb⟩
            have BE107 := Lib.hid (BE106.out.trans (hb.mono BE106.out.size))
            clear hb
            go_wp2_with fail
            refine (HU3.out _).mono ?_
            rintro e w108 ⟨rfl, hb⟩
            have BE108 := Lib.hid (BE107.out.trans (hb.mono BE107.out.size))
            clear hb
            go_wp2_with fail
            refine (HU4.out _).mono ?_
            rintro e w109 ⟨rfl, hb⟩
            have BE109 := Lib.hid (BE108.out.trans (hb.mono BE108.out.size))
            clear hb
            go_wp2_with fail
            refine (draw_PowerSum _ xs1 _ (HS1.out.keep BE109.out) HL1.out).mono ?_
            rintro e y2 ⟨m, d, f, rfl, hb⟩
            have BE110 := Lib.hid (BE109.out.trans (hb.mono BE109.out.size))
            clear hb
            rcases ok38_cases m d f with ⟨hok, M, D, F, rfl, rfl, rfl, hM, hD, hD2, hF, hF2⟩ | hno
            · have HH1 := Lib.hid (fun w => power_at hM hD hD2 hF hF2 w)
              have HH2 := Lib.hid (fun w => spec_PowerSum (M : Int) (D : Int) (F : Int) w)
              have eP : V_PowerSum (M : Int) (D : Int) (F : Int) = ((ps D F M : Nat) : Int) := by unfold V_PowerSum; rw [if_pos hok]; rfl
              simp only [R_PowerSum] at HH2
              rw [eP, hok] at HH2
              have HG := Lib.hid (fun w => greatest_at hD hD2 hF hF2 w)
              have HFF := Lib.hid (fun w => falls_at hD hD2 hF hF2 w)
              have HCD := Lib.hid (fun w => count_at hM hD hD2 w)
              have HLO := Lib.hid (fun h => long_falls (m := M) hD hD2 hF hF2 h)
              have HSH := Lib.hid (fun h => short_le (m := M) hD hF h)
              obtain ⟨S, hS⟩ : ∃ S, S = ps D F M := ⟨_, rfl⟩
              obtain ⟨Gr, hGr⟩ : ∃ Gr, Gr = gs D F := ⟨_, rfl⟩
              obtain ⟨Fl, hFl⟩ : ∃ Fl, Fl = ff D F := ⟨_, rfl⟩
              obtain ⟨Dg, hDg⟩ : ∃ Dg, Dg = (dgs (D : Int) (M : Int)).length := ⟨_, rfl⟩
              rw [← hS] at HH1 HH2 HLO HSH
              rw [← hGr] at HG HSH
              rw [← hFl] at HFF HLO HSH
              rw [← hDg] at HCD HLO HSH
              clear hS hGr hFl hDg eP hok
              go_wp2_with fail
              refine (HH1.out _).mono ?_
              rintro e w111 ⟨rfl, hb⟩
              have BE111 := Lib.hid (BE110.out.trans (hb.mono BE110.out.size))
              clear hb
              go_wp2_with fail
              refine (HH2.out _).mono ?_
              rintro e w112 ⟨rfl, hb⟩
              have BE112 := Lib.hid (BE111.out.trans (hb.mono BE111.out.size))
              clear hb
              go_wp2_with fail
              refine (HFF.out _).mono ?_
              rintro e w113 ⟨rfl, hb⟩
              have BE113 := Lib.hid (BE112.out.trans (hb.mono BE112.out.size))
              clear hb
              go_wp2_with fail
              refine (HCD.out _).mono ?_
              rintro e w114 ⟨rfl, hb⟩
              have BE114 := Lib.hid (BE113.out.trans (hb.mono BE113.out.size))
              clear hb
              go_wp2_with fail
              refine (HG.out _).mono ?_
              rintro e w115 ⟨rfl, hb⟩
              have BE115 := Lib.hid (BE114.out.trans (hb.mono BE114.out.size))
              clear hb
              by_cases hlong : Fl ≤ Dg
              · have hl1 : ¬ (Dg : Int) < (Fl : Int) := by omega
                have hl2 : (Fl : Int) ≤ (Dg : Int) := by omega
                have hl3 : (S : Int) < (M : Int) := by have := HLO.out hlong; omega
                clear hlong
                go_wp2
                go_ret
                exact ⟨rfl, BE115.out⟩
              · have hl1 : (Dg : Int) < (Fl : Int) := by omega
                have hl2 : ¬ (Fl : Int) ≤ (Dg : Int) := by omega
                have hl3 : (S : Int) ≤ (Gr : Int) := by have := HSH.out (by omega); omega
                clear hlong
                go_wp2
                go_ret
                exact ⟨rfl, BE115.out⟩
            · have HH1 := Lib.hid (fun w => impl_PowerSum m d f w)
              have HH2 := Lib.hid (fun w => spec_PowerSum m d f w)
              simp only [R_PowerSum] at HH1 HH2
              rw [hno] at HH1 HH2
              obtain ⟨S, hS⟩ : ∃ S, S = V_PowerSum m d f := ⟨_, rfl⟩
              rw [← hS] at HH1 HH2
              clear hS hno
              go_wp2_with fail
              refine (HH1.out _).mono ?_
              rintro e w111 ⟨rfl, hb⟩
              have BE111 := Lib.hid (BE110.out.trans (hb.mono BE110.out.size))
              clear hb
              go_wp2_with fail
              refine (HH2.out _).mono ?_
              rintro e w112 ⟨rfl, hb⟩
              have BE112 := Lib.hid (BE111.out.trans (hb.mono BE111.out.size))
              clear hb
              go_wp2
              go_ret
              exact ⟨rfl, BE112.out⟩
  · skip
    have eL : LF_PowerRun n b p = [] := by unfold LF_PowerRun; rw [hno]; rfl
    rw [eL, hno] at HI1 HT1
    simp only [R_PowerTail] at HI2 HT2
    simp only [R_EndsIn] at HI3 HT3
    rw [hno] at HI2 HT2 HI3 HT3
    obtain ⟨c1, hc1⟩ : ∃ c1, c1 = VT_PowerTail n b p := ⟨_, rfl⟩
    obtain ⟨c2, hc2⟩ : ∃ c2, c2 = VC_PowerTail n b p := ⟨_, rfl⟩
    obtain ⟨c3, hc3⟩ : ∃ c3, c3 = V_EndsIn n b p := ⟨_, rfl⟩
    rw [← hc1, ← hc2] at HI2 HT2
    rw [← hc3] at HI3 HT3
    clear eL hno hc1 hc2 hc3
    go_wp2_with fail
    refine (HI1.out _).mono ?_
    rintro e w2 ⟨uD, rfl, hr, hb⟩
    have BE2 := Lib.hid (BE1.out.trans (hb.mono BE1.out.size))
    have R1 := Lib.hid hr
    clear hr hb
    go_wp2_with fail
    refine (HT1.out _).mono ?_
    rintro e w3 ⟨uE, rfl, hr, hb⟩
    have R2 := Lib.hid (R1.out.keep hb)
    have BE3 := Lib.hid (BE2.out.trans (hb.mono BE2.out.size))
    have R3 := Lib.hid hr
    clear hr hb
    go_wp2_with fail
    refine (HI2.out _).mono ?_
    rintro e w4 ⟨rfl, hb⟩
    have R4 := Lib.hid (R2.out.keep hb)
    have R5 := Lib.hid (R3.out.keep hb)
    have BE4 := Lib.hid (BE3.out.trans (hb.mono BE3.out.size))
    clear hb
    go_wp2_with fail
    refine (HT2.out _).mono ?_
    rintro e w5 ⟨rfl, hb⟩
    have R6 := Lib.hid (R4.out.keep hb)
    have R7 := Lib.hid (R5.out.keep hb)
    have BE5 := Lib.hid (BE4.out.trans (hb.mono BE4.out.size))
    clear hb
    go_wp2_with fail
    refine (HI3.out _).mono ?_
    rintro e w6 ⟨rfl, hb⟩
    have R8 := Lib.hid (R6.out.keep hb)
    have R9 := Lib.hid (R7.out.keep hb)
    have BE6 := Lib.hid (BE5.out.trans (hb.mono BE5.out.size))
    clear hb
    go_wp2_with fail
    refine (HT3.out _).mono ?_
    rintro e w7 ⟨rfl, hb⟩
    have R10 := Lib.hid (R8.out.keep hb)
    have R11 := Lib.hid (R9.out.keep hb)
    have BE7 := Lib.hid (BE6.out.trans (hb.mono BE6.out.size))
    clear hb
    go_wp2_with fail
    refine (rSame_any _ _ [] _ R10.out.sl R11.out.sl (by simp)).mono ?_
    rintro e w8 ⟨rfl, hb⟩
    have R12 := Lib.hid (R10.out.keep hb)
    have R13 := Lib.hid (R11.out.keep hb)
    have BE8 := Lib.hid (BE7.out.trans (hb.mono BE7.out.size))
    clear hb
    as_aux_lemma =>
      go_wp2_with fail
      refine (draw_FallsFrom _ xs1 _ (HS1.out.keep BE8.out) HL1.out).mono ?_
      rintro e y1 ⟨c, q, rfl, hb⟩
      have BE9 := Lib.hid (BE8.out.trans (hb.mono BE8.out.size))
      clear hb
      have HU1 := Lib.hid (fun w => impl_FallsFrom c q w)
      have HU2 := Lib.hid (fun w => spec_FallsFrom c q w)
      have HU3 := Lib.hid (fun w => impl_GreatestSum c q w)
      have HU4 := Lib.hid (fun w => spec_GreatestSum c q w)
      simp only [R_FallsFrom, R_GreatestSum] at HU1 HU2 HU3 HU4
      obtain ⟨z1, hz1⟩ : ∃ z1, z1 = V_FallsFrom c q := ⟨_, rfl⟩
      obtain ⟨z2, hz2⟩ : ∃ z2, z2 = V_GreatestSum c q := ⟨_, rfl⟩
      obtain ⟨q1, hq1⟩ : ∃ q1, q1 = OK2 c q 8 := ⟨_, rfl⟩
      rw [← hz1, ← hq1] at HU1 HU2
      rw [← hz2, ← hq1] at HU3 HU4
      clear hz1 hz2 hq1
      go_wp2_with fail
      refine (HU1.out _).mono ?_
      rintro e w10 ⟨rfl, hb⟩
      have BE10 := Lib.hid (BE9.out.trans (hb.mono BE9.out.size))
      clear hb
      go_wp2_with fail
      refine (HU2.out _).mono ?_
      rintro e w11 ⟨rfl, hb⟩
      have BE11 := Lib.hid (BE10.out.trans (hb.mono BE10.out.size))
      clear hb
      go_wp2_with fail
      refine (HU3.out _).mono ?_
      rintro e w12 ⟨rfl, hb⟩
      have BE12 := Lib.hid (BE11.out.trans (hb.mono BE11.out.size))
      clear hb
      go_wp2_with fail
      refine (HU4.out _).mono ?_
      rintro e w13 ⟨rfl, hb⟩
      have BE13 := Lib.hid (BE12.out.trans (hb.mono BE12.out.size))
      clear hb
      go_wp2_with fail
      refine (draw_PowerSum _ xs1 _ (HS1.out.keep BE13.out) HL1.out).mono ?_
      rintro e y2 ⟨m, d, f, rfl, hb⟩
      have BE14 := Lib.hid (BE13.out.trans (hb.mono BE13.out.size))
      clear hb
      rcases ok38_cases m d f with ⟨hok, M, D, F, rfl, rfl, rfl, hM, hD, hD2, hF, hF2⟩ | hno
      · have HH1 := Lib.hid (fun w => power_at hM hD hD2 hF hF2 w)
        have HH2 := Lib.hid (fun w => spec_PowerSum (M : Int) (D : Int) (F : Int) w)
        have eP : V_PowerSum (M : Int) (D : Int) (F : Int) = ((ps D F M : Nat) : Int) := by unfold V_PowerSum; rw [if_pos hok]; rfl
        simp only [R_PowerSum] at HH2
        rw [eP, hok] at HH2
        have HG := Lib.hid (fun w => greatest_at hD hD2 hF hF2 w)
        have HFF := Lib.hid (fun w => falls_at hD hD2 hF hF2 w)
        have HCD := Lib.hid (fun w => count_at hM hD hD2 w)
        have HLO := Lib.hid (fun h => long_falls (m := M) hD hD2 hF hF2 h)
        have HSH := Lib.hid (fun h => short_le (m := M) hD hF h)
        obtain ⟨S, hS⟩ : ∃ S, S = ps D F M := ⟨_, rfl⟩
        obtain ⟨Gr, hGr⟩ : ∃ Gr, Gr = gs D F := ⟨_, rfl⟩
        obtain ⟨Fl, hFl⟩ : ∃ Fl, Fl = ff D F := ⟨_, rfl⟩
        obtain ⟨Dg, hDg⟩ : ∃ Dg, Dg = (dgs (D : Int) (M : Int)).length := ⟨_, rfl⟩
        rw [← hS] at HH1 HH2 HLO HSH
        rw [← hGr] at HG HSH
        rw [← hFl] at HFF HLO HSH
        rw [← hDg] at HCD HLO HSH
        clear hS hGr hFl hDg eP hok
        go_wp2_with fail
        refine (HH1.out _).mono ?_
        rintro e w15 ⟨rfl, hb⟩
        have BE15 := Lib.hid (BE14.out.trans (hb.mono BE14.out.size))
        clear hb
        go_wp2_with fail
        refine (HH2.out _).mono ?_
        rintro e w16 ⟨rfl, hb⟩
        have BE16 := Lib.hid (BE15.out.trans (hb.mono BE15.out.size))
        clear hb
        go_wp2_with fail
        refine (HFF.out _).mono ?_
        rintro e w17 ⟨rfl, hb⟩
        have BE17 := Lib.hid (BE16.out.trans (hb.mono BE16.out.size))
        clear hb
        go_wp2_with fail
        refine (HCD.out _).mono ?_
        rintro e w18 ⟨rfl, hb⟩
        have BE18 := Lib.hid (BE17.out.trans (hb.mono BE17.out.size))
        clear hb
        go_wp2_with fail
        refine (HG.out _).mono ?_
        rintro e w19 ⟨rfl, hb⟩
        have BE19 := Lib.hid (BE18.out.trans (hb.mono BE18.out.size))
        clear hb
        by_cases hlong : Fl ≤ Dg
        · have hl1 : ¬ (Dg : Int) < (Fl : Int) := by omega
          have hl2 : (Fl : Int) ≤ (Dg : Int) := by omega
          have hl3 : (S : Int) < (M : Int) := by have := HLO.out hlong; omega
          clear hlong
          go_wp2
          go_ret
          exact ⟨rfl, BE19.out⟩
        · have hl1 : (Dg : Int) < (Fl : Int) := by omega
          have hl2 : ¬ (Fl : Int) ≤ (Dg : Int) := by omega
          have hl3 : (S : Int) ≤ (Gr : Int) := by have := HSH.out (by omega); omega
          clear hlong
          go_wp2
          go_ret
          exact ⟨rfl, BE19.out⟩
      · have HH1 := Lib.hid (fun w => impl_PowerSum m d f w)
        have HH2 := Lib.hid (fun w => spec_PowerSum m d f w)
        simp only [R_PowerSum] at HH1 HH2
        rw [hno] at HH1 HH2
        obtain ⟨S, hS⟩ : ∃ S, S = V_PowerSum m d f := ⟨_, rfl⟩
        rw [← hS] at HH1 HH2
        clear hS hno
        go_wp2_with fail
        refine (HH1.out _).mono ?_
        rintro e w15 ⟨rfl, hb⟩
        have BE15 := Lib.hid (BE14.out.trans (hb.mono BE14.out.size))
        clear hb
        go_wp2_with fail
        refine (HH2.out _).mono ?_
        rintro e w16 ⟨rfl, hb⟩
        have BE16 := Lib.hid (BE15.out.trans (hb.mono BE15.out.size))
        clear hb
        go_wp2
        go_ret
        exact ⟨rfl, BE16.out⟩

end Go.Proofs.Ytaenpmhnfcleeaa
