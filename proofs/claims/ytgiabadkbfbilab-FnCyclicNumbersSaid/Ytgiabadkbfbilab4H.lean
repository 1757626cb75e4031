/-
  What the law of cyclic numbers draws.
-/
import Derived.Test.Ytgiabadkbfbilab05
import Derived.Test.Ytgiabadkbfbilab9F
namespace Go.Proofs.Ytgiabadkbfbilab
open Go.RowKit
set_option linter.unusedVariables false
set_option linter.unusedSimpArgs false
set_option maxRecDepth 100000

theorem among_mem (g : Nat) (v : Value) (xs : List Int) (K : Nat) (ys : List Int) (w : World) (h : Cu w g v xs K) (hK : K ≤ 1000000) (h1 : 1 ≤ ys.length) (h2 : ys.length ≤ 1000) :
    Calls Try.prog 60 #[.pointer (some ⟨g, 0, none⟩), .slice (some ⟨w.heap.size, 0, none⟩) ys.length ys.length] (w.alloc (.cells (ys.map (Value.int .i64)).toArray 3)) fun e w' => ∃ x : Int, e = .returned (.int .i64 x) ∧ x ∈ ys ∧ Cu w' g v xs (K + 2) ∧ w.grownBy w' (some g) := by
  have HG := Lib.hid (grown_alloc w (.cells (ys.map (Value.int .i64)).toArray 3) (some g))
  have HY := Lib.hid (rd_consts w ys h2)
  have HB := Lib.hid (show ¬ w.heap.size = g from fun e => by have := h.lt; omega)
  have HC := Lib.hid (h.alloc (.cells (ys.map (Value.int .i64)).toArray 3))
  obtain ⟨b, hb⟩ : ∃ b, b = w.heap.size := ⟨_, rfl⟩
  obtain ⟨w1, hw1⟩ : ∃ w1, w1 = w.alloc (.cells (ys.map (Value.int .i64)).toArray 3) := ⟨_, rfl⟩
  rw [← hb] at HY HB
  rw [← hw1] at HG HY HC
  rw [← hb, ← hw1]
  have HP := Lib.hid (pick_any g v xs K (ys.length : Int) w1 HC.out hK (by omega) (by omega))
  obtain ⟨L, hL⟩ : ∃ L, L = ys.length := ⟨_, rfl⟩
  rw [← hL] at HP HY h1 h2 ⊢
  have HLL := Lib.hid hL
  clear h hL hb hw1
  go_enter Try.func60, Try.ntmps60
  go_wp2_with fail
  refine HP.out.mono ?_
  rintro e w2 ⟨x, rfl, x0, x1, hc, hg⟩
  have C1 := Lib.hid hc
  have G1 := Lib.hid (grown_trans HG.out hg)
  obtain ⟨X, rfl⟩ : ∃ X : Nat, x = (X : Int) := ⟨x.toNat, by omega⟩
  have hX : X < L := by omega
  have hXy : X < ys.length := by rw [← HLL.out]; exact hX
  have hcell : w2.cell? ⟨b, X, none⟩ = some (.int .i64 ys[X]) := by
    have hr : Rd w2 _ (.slice (some ⟨b, 0, none⟩) L L) ys := HY.out.grown hg (.inr (fun e => HB.out (by simpa [Value.ownBlock] using e)))
    exact hr.at.2.2.2.2.1 X hXy
  have HM := Lib.hid (List.getElem_mem hXy)
  obtain ⟨y, hy⟩ : ∃ y, y = ys[X] := ⟨_, rfl⟩
  rw [← hy] at hcell HM
  clear hc hg hy x1 hXy
  go_wp2
  go_ret
  exact ⟨y, rfl, HM.out, C1.out, G1.out⟩

theorem amongm_at (g : Nat) (v : Value) (xs : List Int) (K : Nat) (ys : List Int) (w : World) (h : Cu w g v xs K) (hK : K ≤ 1000000) (h1 : 1 ≤ ys.length) (h2 : ys.length ≤ 1000)
    {s n : Nat} {cs : Array Value} (hs : s = w.heap.size) (hn : n = ys.length) (hcs : cs = (ys.map (Value.int .i64)).toArray) :
    Calls Try.prog 60 #[.pointer (some ⟨g, 0, none⟩), .slice (some ⟨s, 0, none⟩) n n] (w.alloc (.cells cs 3)) fun e w' => ∃ x : Int, e = .returned (.int .i64 x) ∧ x ∈ ys ∧ Cu w' g v xs (K + 2) ∧ w.grownBy w' (some g) := by
  subst hs hn hcs
  exact among_mem g v xs K ys w h hK h1 h2

theorem draw_HalvesOf (v : Value) (xs : List Int) (w : World) (h : Sb w v xs) (hs : xs.length ≤ 1048576) :
    Calls Try.prog 7 #[v] w fun e w' => ∃ z y p : Int, e = .returned (.tuple #[.int .i64 z, .int .i64 y, .int .i64 p]) ∧ Below w.heap.size w w' := by
  have HC := Lib.hid (Cu.start h hs)
  obtain ⟨a, cap, rfl⟩ := h.len
  have HB := Lib.hid (alloc_below w (.cells #[.slice a xs.length cap, .int .i64 0, .int .u64 0] 50))
  clear h
  go_enter Try.func7, Try.ntmps7
  go_wp2_with fail
  refine (amongm_at w.heap.size _ xs _ [3, 7, 11, 13, 17, 37, 41, 73, 101, 137, 9, 2, 5] _ HC.out (by omega) (by simp) (by simp) (World.size_alloc _ _).symm rfl rfl).mono ?_
  rintro e w1 ⟨p, rfl, hm, hc, hg⟩
  have hp : 0 ≤ p ∧ p ≤ 137 := by
    simp only [List.mem_cons, List.not_mem_nil, or_false] at hm
    omega
  have C1 := Lib.hid hc
  have HB1 := Lib.hid (HB.out.trans (grown_below hg (by simp) (Nat.le_refl _)))
  clear hc hg hm
  go_wp2_with fail
  refine (pick_any w.heap.size _ xs _ p _ C1.out (by omega) hp.1 (by omega)).mono ?_
  rintro e w2 ⟨x, rfl, hx0, hx1, hc, hg⟩
  have C2 := Lib.hid hc
  have HB2 := Lib.hid (HB1.out.trans (grown_below hg HB1.out.size (Nat.le_refl _)))
  clear hc hg hx0 hx1
  go_wp2_with fail
  refine (base_any w.heap.size _ xs _ _ C2.out (by omega)).mono ?_
  rintro e w3 ⟨y, rfl, hc, hg⟩
  have HB3 := Lib.hid (HB2.out.trans (grown_below hg HB2.out.size (Nat.le_refl _)))
  clear hc hg
  go_wp2
  go_ret3
  exact ⟨_, _, _, rfl, HB3.out⟩

theorem draw_CyclicOf (v : Value) (xs : List Int) (w : World) (h : Sb w v xs) (hs : xs.length ≤ 1048576) :
    Calls Try.prog 72 #[v] w fun e w' => ∃ z y : Int, e = .returned (.tuple #[.int .i64 z, .int .i64 y]) ∧ Below w.heap.size w w' := by
  have HC := Lib.hid (Cu.start h hs)
  obtain ⟨a, cap, rfl⟩ := h.len
  have HB := Lib.hid (alloc_below w (.cells #[.slice a xs.length cap, .int .i64 0, .int .u64 0] 50))
  clear h
  go_enter Try.func72, Try.ntmps72
  go_wp2_with fail
  refine (amongm_at w.heap.size _ xs _ [2, 3, 5, 7, 17, 19, 23, 29, 13, 293, 307] _ HC.out (by omega) (by simp) (by simp) (World.size_alloc _ _).symm rfl rfl).mono ?_
  rintro e w1 ⟨p, rfl, hm, hc, hg⟩
  have C1 := Lib.hid hc
  have HB1 := Lib.hid (HB.out.trans (grown_below hg (by simp) (Nat.le_refl _)))
  clear hc hg hm
  go_wp2_with fail
  refine (base_any w.heap.size _ xs _ _ C1.out (by omega)).mono ?_
  rintro e w3 ⟨y, rfl, hc, hg⟩
  have HB3 := Lib.hid (HB1.out.trans (grown_below hg HB1.out.size (Nat.le_refl _)))
  clear hc hg
  go_wp2
  go_ret2
  exact ⟨_, _, rfl, HB3.out⟩

theorem draw_TurnsOf (v : Value) (xs : List Int) (w : World) (h : Sb w v xs) (hs : xs.length ≤ 1048576) :
    Calls Try.prog 12 #[v] w fun e w' => ∃ z y : Int, e = .returned (.tuple #[.int .i64 z, .int .i64 y]) ∧ Below w.heap.size w w' := by
  have HD := Lib.hid (draw_CyclicOf v xs w h hs)
  clear h
  go_enter Try.func12, Try.ntmps12
  go_wp2_with fail
  refine HD.out.mono ?_
  rintro e w1 ⟨z, y, rfl, hb⟩
  have HB := Lib.hid hb
  clear hb
  go_wp2
  go_ret2
  exact ⟨_, _, rfl, HB.out⟩

theorem rd_noneC (w : World) (B : Nat) (hB : B ≤ w.heap.size) : Rd (w.alloc (.cells #[] 3)) B (.slice (some ⟨w.heap.size, 0, none⟩) 0 0) [] := by
  have := World.ownsRow_lit (e := 3) (size := 1) (base := w.heap.size) w #[] 0 (Nat.le_refl _) (by unfold maxLen; omega) rfl
  exact Rd.mono this hB
end Go.Proofs.Ytgiabadkbfbilab
