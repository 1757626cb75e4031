/-
  Joint text of 0A, 0B, 0G, 0D: what each proves stands ahead of it.
-/
import Derived.Test.YtlbjeiaihenjkaaGreatDoorJ00
import Derived.Test.YtlbjeiaihenjkaaGreatDoorJ03
import Derived.Test.YtlbjeiaihenjkaaGreatDoorJ15
import Derived.Test.YtlbjeiaihenjkaaGreatDoorJ06
import Derived.Test.YtlbjeiaihenjkaaGreatDoorJ24
import Derived.Laws.BitsAllLaws
import Derived.Test.YtlbjeiaihenjkaaGreatDoorJ43
/- from 0A: A cursor over bytes, as the laws' inputs are drawn with it: what it gives lies in range, and it changes nothing but itself.  -/
namespace Go.Proofs.YtlbjeiaihenjkaaGreatDoor
open Go.RowKit
set_option linter.unusedVariables false
set_option linter.unusedSimpArgs false
set_option maxRecDepth 100000

/-- An argument: a slice of bytes (of an empty one nothing is known). -/
def Sb (w : World) (v : Value) (xs : List Int) : Prop := ∃ a cap, v = .slice a xs.length cap ∧ (∀ x ∈ xs, 0 ≤ x ∧ x ≤ 255) ∧
  (xs = [] ∨ ∃ b off, a = some ⟨b, off, none⟩ ∧ b < w.heap.size ∧ ∀ j (h : j < xs.length), w.cell? ⟨b, off + j, none⟩ = some (.int .u8 xs[j]))
theorem Sb.keep {w w' : World} {v : Value} {xs : List Int} (h : Sb w v xs) (hb : Below w.heap.size w w') : Sb w' v xs := by
  obtain ⟨a, cap, rfl, h1, h2⟩ := h
  refine ⟨a, cap, rfl, h1, ?_⟩
  rcases h2 with h2 | ⟨b, off, h1, h2, h3⟩
  · exact .inl h2
  · exact .inr ⟨b, off, h1, Nat.lt_of_lt_of_le h2 hb.size, fun j hj => (hb.cell (p := ⟨b, off + j, none⟩) h2).trans (h3 j hj)⟩
theorem Sb.len {w : World} {v : Value} {xs : List Int} (h : Sb w v xs) : ∃ a cap, v = .slice a xs.length cap := by
  obtain ⟨a, cap, rfl, _⟩ := h
  exact ⟨a, cap, rfl⟩

/-- A cursor in block g, over bytes that lie below it. -/
structure Cu (w : World) (g : Nat) (v : Value) (xs : List Int) (K : Nat) : Prop where
  code : w.cell? ⟨g, 0, none⟩ = some v
  at' : ∃ t : Nat, t ≤ K ∧ w.cell? ⟨g, 1, none⟩ = some (.int .i64 (t : Int))
  seed : ∃ s : Nat, s < 18446744073709551616 ∧ w.cell? ⟨g, 2, none⟩ = some (.int .u64 (s : Int))
  free : ∀ j, w.frozen? ⟨g, j, none⟩ = false
  lt : g < w.heap.size
  some' : ∃ a cap, v = .slice a xs.length cap
  all : ∀ x ∈ xs, 0 ≤ x ∧ x ≤ 255
  bytes : xs = [] ∨ ∃ b off cap, v = .slice (some ⟨b, off, none⟩) xs.length cap ∧ b < g ∧ ∀ j (h : j < xs.length), w.cell? ⟨b, off + j, none⟩ = some (.int .u8 xs[j])
  short : xs.length ≤ 1048576

/-- Behind what is written above it the cursor stands as before. -/
theorem Cu.keep {w w' : World} {g K : Nat} {v : Value} {xs : List Int} (h : Cu w g v xs K) (hb : Below (g + 1) w w') : Cu w' g v xs K := by
  have hc : ∀ j, w'.cell? ⟨g, j, none⟩ = w.cell? ⟨g, j, none⟩ := fun j => hb.cell (p := ⟨g, j, none⟩) (Nat.lt_succ_self g)
  refine ⟨(hc 0).trans h.code, ?_, ?_, fun j => (hb.frozen (p := ⟨g, j, none⟩) (Nat.lt_succ_self g)).trans (h.free j), Nat.lt_of_lt_of_le h.lt hb.size, h.some', h.all, ?_, h.short⟩
  · obtain ⟨t, h1, h2⟩ := h.at'
    exact ⟨t, h1, (hc 1).trans h2⟩
  · obtain ⟨t, h1, h2⟩ := h.seed
    exact ⟨t, h1, (hc 2).trans h2⟩
  · rcases h.bytes with h1 | ⟨b, off, cap, h1, h2, h3⟩
    · exact .inl h1
    · exact .inr ⟨b, off, cap, h1, h2, fun j hj => (hb.cell (p := ⟨b, off + j, none⟩) (Nat.lt_succ_of_lt h2)).trans (h3 j hj)⟩
theorem Cu.alloc {w : World} {g K : Nat} {v : Value} {xs : List Int} (h : Cu w g v xs K) (o : Obj) : Cu (w.alloc o) g v xs K :=
  h.keep ((Below.refl _ _).alloc (Nat.succ_le_of_lt h.lt) o)
theorem Cu.drew {w : World} {g K : Nat} {v : Value} {xs : List Int} (h : Cu w g v xs K) : Cu w.drew g v xs K := h.keep (Below.refl _ _).drew
theorem Cu.mono {w : World} {g K K' : Nat} {v : Value} {xs : List Int} (h : Cu w g v xs K) (hK : K ≤ K') : Cu w g v xs K' := by
  obtain ⟨t, h1, h2⟩ := h.at'
  exact ⟨h.code, ⟨t, Nat.le_trans h1 hK, h2⟩, h.seed, h.free, h.lt, h.some', h.all, h.bytes, h.short⟩

theorem grown_setCell (w : World) (g j : Nat) (u : Value) : w.grownBy (w.setCell ⟨g, j, none⟩ u) (some g) :=
  ⟨rfl, rfl, rfl, by simp, fun k hk hne => by
    simp only [World.setCell, Array.getElem?_modify]
    rw [if_neg (fun e => hne (by rw [e]))]⟩
theorem grown_alloc (w : World) (o : Obj) (row : Option Nat) : w.grownBy (w.alloc o) row := by
  have h := (Below.refl w.heap.size w).alloc (Nat.le_refl _) o
  exact ⟨h.os, h.tape, h.output, h.size, fun i hi _ => h.block i hi⟩
theorem and_255 (s : Nat) : ((s &&& 255 : Nat) : Int) ≤ 255 := by
  have : s &&& 255 ≤ 255 := Nat.and_le_right
  omega

theorem wrap_u64 (z : Int) : 0 ≤ IntKind.u64.wrap z ∧ IntKind.u64.wrap z < 18446744073709551616 := by
  have h : IntKind.u64.wrap z = z % 18446744073709551616 := by simp [IntKind.wrap, IntKind.signed, IntKind.bits]
  rw [h]
  omega

theorem seed_out (z : Int) : 0 ≤ wrap64 (bits BinOp.and IntKind.u64 (IntKind.u64.wrap z / 1099511627776) 255) ∧ wrap64 (bits BinOp.and IntKind.u64 (IntKind.u64.wrap z / 1099511627776) 255) ≤ 255 := by
  obtain ⟨h1, h2⟩ := wrap_u64 z
  rw [u64_and _ 255 (by omega) (by omega) (by omega) (by omega)]
  have h3 := and_255 (IntKind.u64.wrap z / 1099511627776).toNat
  have e : ((255 : Int)).toNat = 255 := rfl
  rw [e]
  obtain ⟨q, hq⟩ : ∃ q : Nat, q = (IntKind.u64.wrap z / 1099511627776).toNat &&& 255 := ⟨_, rfl⟩
  rw [← hq] at h3 ⊢
  have hw : wrap64 (q : Int) = (q : Int) := by unfold wrap64; omega
  rw [hw]
  omega
theorem Cu.stepped {w : World} {g K : Nat} {v : Value} {xs : List Int} (h : Cu w g v xs K) (t : Nat) (ht : t ≤ K + 1) (T : Int) (hT : T = (t : Int)) (S : Int) (hS : 0 ≤ S ∧ S < 18446744073709551616) :
    Cu ((w.setCell ⟨g, 1, none⟩ (.int .i64 T)).setCell ⟨g, 2, none⟩ (.int .u64 S)) g v xs (K + 1) ∧ w.grownBy ((w.setCell ⟨g, 1, none⟩ (.int .i64 T)).setCell ⟨g, 2, none⟩ (.int .u64 S)) (some g) := by
  subst hT
  have hgr : w.grownBy ((w.setCell ⟨g, 1, none⟩ (.int .i64 (t : Int))).setCell ⟨g, 2, none⟩ (.int .u64 S)) (some g) := grown_trans (grown_setCell w g 1 _) (grown_setCell _ g 2 _)
  have hb1 : Below g w (w.setCell ⟨g, 1, none⟩ (.int .i64 (t : Int))) := (Below.refl g w).setCell (p := ⟨g, 1, none⟩) (Nat.le_refl g) _
  have hb : Below g w ((w.setCell ⟨g, 1, none⟩ (.int .i64 (t : Int))).setCell ⟨g, 2, none⟩ (.int .u64 S)) := hb1.setCell (p := ⟨g, 2, none⟩) (Nat.le_refl g) _
  obtain ⟨t0, t1, t2⟩ := h.at'
  obtain ⟨s0, s1, s2⟩ := h.seed
  have n01 : (⟨g, 1, none⟩ : Addr) ≠ ⟨g, 0, none⟩ := fun e => by simp at e
  have n02 : (⟨g, 2, none⟩ : Addr) ≠ ⟨g, 0, none⟩ := fun e => by simp at e
  have n12 : (⟨g, 2, none⟩ : Addr) ≠ ⟨g, 1, none⟩ := fun e => by simp at e
  refine ⟨⟨?_, ⟨t, ht, ?_⟩, ⟨S.toNat, by omega, ?_⟩, fun j => ?_, by simpa using h.lt, h.some', h.all, ?_, h.short⟩, hgr⟩
  · rw [World.cell?_setCell_other _ _ _ _ n02, World.cell?_setCell_other _ _ _ _ n01]; exact h.code
  · rw [World.cell?_setCell_other _ _ _ _ n12]
    exact World.cell?_setCell_same _ _ _ t2
  · rw [show ((S.toNat : Nat) : Int) = S by omega]
    refine World.cell?_setCell_same _ _ _ (u := .int .u64 (s0 : Int)) ?_
    rw [World.cell?_setCell_other _ _ _ _ (Ne.symm n12)]; exact s2
  · rw [World.frozen?_setCell, World.frozen?_setCell]; exact h.free j
  · rcases h.bytes with h1 | ⟨b, off, cap, h1, h2, h3⟩
    · exact .inl h1
    · exact .inr ⟨b, off, cap, h1, h2, fun j hj => (hb.cell (p := ⟨b, off + j, none⟩) h2).trans (h3 j hj)⟩

theorem next_any (g : Nat) (v : Value) (xs : List Int) (K : Nat) (w : World) (h : Cu w g v xs K) (hK : K ≤ 2000000) :
    Calls Tryz.prog 135 #[.pointer (some ⟨g, 0, none⟩)] w fun e w' => ∃ x : Int, e = .returned (.int .i64 x) ∧ 0 ≤ x ∧ x ≤ 255 ∧ Cu w' g v xs (K + 1) ∧ w.grownBy w' (some g) := by
  have H := Lib.hid h
  obtain ⟨a, cap, rfl⟩ := h.some'
  obtain ⟨t, t1, ct⟩ := h.at'
  obtain ⟨s, s1, cs⟩ := h.seed
  have cc := h.code
  have f0 := h.free 0
  have f1 := h.free 1
  have f2 := h.free 2
  have hsh := h.short
  have hlt := h.lt
  by_cases hin : t < xs.length
  · obtain ⟨b, off, rfl, hbl, hcell⟩ : ∃ b off, a = some ⟨b, off, none⟩ ∧ b < g ∧ ∀ j (h : j < xs.length), w.cell? ⟨b, off + j, none⟩ = some (.int .u8 xs[j]) := by
      rcases h.bytes with h1 | ⟨b, off, cap', h1, h2, h3⟩
      · rw [h1] at hin; simp at hin
      · simp only [Value.slice.injEq, true_and] at h1
        exact ⟨b, off, h1.1, h2, h3⟩
    have hc := hcell t hin
    obtain ⟨x0, x1⟩ := h.all _ (List.getElem_mem hin)
    obtain ⟨x, hx⟩ : ∃ x, x = xs[t] := ⟨_, rfl⟩
    rw [← hx] at hc x0 x1
    obtain ⟨L, hL⟩ : ∃ L, L = xs.length := ⟨_, rfl⟩
    rw [← hL] at hin cc hsh
    have hx2 : x < 256 := by omega
    clear h hcell hx hL
    go_enter Tryz.func135, Tryz.ntmps135
    go_wp2
    go_region
    all_goals
      go_wp2
      go_region
      all_goals
        go_wp2
        go_region
        all_goals
          go_wp2
          go_ret
          exact ⟨x, rfl, x0, x1, (H.out.stepped (t + 1) (by omega) ((t : Int) + 1) (by omega) _ (wrap_u64 _)).1.drew.drew.drew, grown_drew (grown_drew (grown_drew (H.out.stepped (t + 1) (by omega) ((t : Int) + 1) (by omega) _ (wrap_u64 _)).2))⟩
  · have hle : ¬ ((t : Int) + 1 ≤ (xs.length : Int)) := by omega
    obtain ⟨L, hL⟩ : ∃ L, L = xs.length := ⟨_, rfl⟩
    rw [← hL] at hin cc hsh hle
    clear h hL
    go_enter Tryz.func135, Tryz.ntmps135
    go_wp2
    go_region
    all_goals
      go_wp2
      go_region
      all_goals
        go_wp2
        go_ret
        obtain ⟨o1, o2⟩ := seed_out (IntKind.u64.wrap (IntKind.u64.wrap ((s : Int) * 6364136223846793005)) + 1442695040888963407)
        exact ⟨_, rfl, o1, o2, (H.out.stepped (t + 1) (by omega) ((t : Int) + 1) (by omega) _ (wrap_u64 _)).1.drew.drew, grown_drew (grown_drew (H.out.stepped (t + 1) (by omega) ((t : Int) + 1) (by omega) _ (wrap_u64 _)).2)⟩

end Go.Proofs.YtlbjeiaihenjkaaGreatDoor

/- from 0B: Choices by a cursor: numbers below a bound, elements of a list; the numbers that the laws of chapter 8 draw.  -/
namespace Go.Proofs.YtlbjeiaihenjkaaGreatDoor
open Go.RowKit
set_option linter.unusedVariables false
set_option linter.unusedSimpArgs false
set_option maxRecDepth 100000

theorem pick_any (g : Nat) (v : Value) (xs : List Int) (K : Nat) (n : Int) (w : World) (h : Cu w g v xs K) (hK : K ≤ 1000000) (h0 : 0 ≤ n) (h1 : n ≤ 65536) :
    Calls Tryz.prog 71 #[.pointer (some ⟨g, 0, none⟩), .int .i64 n] w fun e w' => ∃ x : Int, e = .returned (.int .i64 x) ∧ 0 ≤ x ∧ (x < n ∨ x = 0) ∧ Cu w' g v xs (K + 2) ∧ w.grownBy w' (some g) := by
  have H := Lib.hid h
  clear h
  by_cases hn : n ≤ 1
  · go_enter Tryz.func71, Tryz.ntmps71
    go_wp2
    go_ret
    exact ⟨0, rfl, by omega, .inr rfl, H.out.mono (by omega), World.grownBy.refl _ _⟩
  · have HN := Lib.hid (show ∀ w', Cu w' g v xs K → Calls Tryz.prog 135 #[.pointer (some ⟨g, 0, none⟩)] w' fun e w'' => ∃ x : Int, e = .returned (.int .i64 x) ∧ 0 ≤ x ∧ x ≤ 255 ∧ Cu w'' g v xs (K + 1) ∧ w'.grownBy w'' (some g) from fun w' h => next_any g v xs K w' h (by omega))
    by_cases hn2 : 200 < n
    · have HN2 := Lib.hid (show ∀ w', Cu w' g v xs (K + 1) → Calls Tryz.prog 135 #[.pointer (some ⟨g, 0, none⟩)] w' fun e w'' => ∃ x : Int, e = .returned (.int .i64 x) ∧ 0 ≤ x ∧ x ≤ 255 ∧ Cu w'' g v xs (K + 2) ∧ w'.grownBy w'' (some g) from fun w' h => next_any g v xs (K + 1) w' h (by omega))
      go_enter Tryz.func71, Tryz.ntmps71
      go_wp2_with fail
      refine (HN.out _ H.out).mono ?_
      rintro e w1 ⟨x, rfl, x0, x1, hc, hg⟩
      have C1 := Lib.hid hc
      have G1 := Lib.hid hg
      clear hc hg
      go_wp2_with fail
      refine (HN2.out _ C1.out).mono ?_
      rintro e w2 ⟨y, rfl, y0, y1, hc, hg⟩
      have C2 := Lib.hid hc
      have G2 := Lib.hid (grown_trans G1.out hg)
      clear hc hg
      have hz0 : 0 ≤ x * 256 + y := by omega
      have hm := Int.emod_nonneg (x * 256 + y) (show n ≠ 0 by omega)
      have hm2 := Int.emod_lt_of_pos (x * 256 + y) (show 0 < n by omega)
      go_wp2
      go_ret
      exact ⟨(x * 256 + y) % n, by first | rfl | go_num, hm, .inl hm2, C2.out, G2.out⟩
    · go_enter Tryz.func71, Tryz.ntmps71
      go_wp2_with fail
      refine (HN.out _ H.out).mono ?_
      rintro e w1 ⟨x, rfl, x0, x1, hc, hg⟩
      have C1 := Lib.hid hc
      have G1 := Lib.hid hg
      clear hc hg
      have hm := Int.emod_nonneg x (show n ≠ 0 by omega)
      have hm2 := Int.emod_lt_of_pos x (show 0 < n by omega)
      go_wp2
      go_ret
      exact ⟨x % n, by first | rfl | go_num, hm, .inl hm2, C1.out.mono (by omega), G1.out⟩

theorem oneD_any (g : Nat) (v : Value) (xs : List Int) (K : Nat) (n : Int) (w : World) (h : Cu w g v xs K) (hK : K ≤ 1000000) (h0 : 0 ≤ n) (h1 : n ≤ 65536) :
    Calls Tryz.prog 44 #[.pointer (some ⟨g, 0, none⟩), .int .i64 n] w fun e w' => ∃ q : Bool, e = .returned (.bool q) ∧ Cu w' g v xs (K + 2) ∧ w.grownBy w' (some g) := by
  have HP := Lib.hid (pick_any g v xs K n w h hK h0 h1)
  clear h
  go_enter Tryz.func44, Tryz.ntmps44
  go_wp2_with (go_at_call 71; refine HP.out.mono ?_; rintro e w1 ⟨x, rfl, x0, x1, hc, hg⟩; have C1 := Lib.hid hc; have G1 := Lib.hid hg; clear hc hg x1)
  go_ret
  exact ⟨_, rfl, C1.out, G1.out⟩

theorem among_any (g : Nat) (v : Value) (xs : List Int) (K : Nat) (b c D : Nat) (ys : List Int) (w : World) (h : Cu w g v xs K) (hK : K ≤ 1000000) (hy : Rd w D (.slice (some ⟨b, 0, none⟩) ys.length c) ys) (hbg : b ≠ g) (h1 : 1 ≤ ys.length) (h2 : ys.length ≤ 1000) :
    Calls Tryz.prog 73 #[.pointer (some ⟨g, 0, none⟩), .slice (some ⟨b, 0, none⟩) ys.length c] w fun e w' => ∃ x : Int, e = .returned (.int .i64 x) ∧ Cu w' g v xs (K + 2) ∧ w.grownBy w' (some g) := by
  have HP := Lib.hid (pick_any g v xs K (ys.length : Int) w h hK (by omega) (by omega))
  have HY := Lib.hid hy
  have HB := Lib.hid hbg
  obtain ⟨L, hL⟩ : ∃ L, L = ys.length := ⟨_, rfl⟩
  rw [← hL] at HP HY h1 h2 ⊢
  have HLL := Lib.hid hL
  clear h hy hbg hL
  go_enter Tryz.func73, Tryz.ntmps73
  go_wp2_with fail
  refine HP.out.mono ?_
  rintro e w1 ⟨x, rfl, x0, x1, hc, hg⟩
  have C1 := Lib.hid hc
  have G1 := Lib.hid hg
  obtain ⟨X, rfl⟩ : ∃ X : Nat, x = (X : Int) := ⟨x.toNat, by omega⟩
  have hX : X < L := by omega
  have hcell : w1.cell? ⟨b, X, none⟩ = some (.int .i64 (ys.getD X 0)) := by
    have hr : Rd w1 D (.slice (some ⟨b, 0, none⟩) L c) ys := HY.out.grown hg (.inr (fun e => HB.out (by simpa [Value.ownBlock] using e)))
    rw [hr.at.2.2.2.2.1 X (by rw [← HLL.out]; exact hX)]
    simp [show X < ys.length by rw [← HLL.out]; exact hX]
  obtain ⟨y, hy⟩ : ∃ y, y = ys.getD X 0 := ⟨_, rfl⟩
  rw [← hy] at hcell
  clear hc hg hy x1
  go_wp2
  go_ret
  exact ⟨y, rfl, C1.out, G1.out⟩

theorem Cu.start {w : World} {v : Value} {xs : List Int} (h : Sb w v xs) (hs : xs.length ≤ 1048576) : Cu (w.alloc (.cells #[v, .int .i64 0, .int .u64 0] 76)) w.heap.size v xs 0 := by
  obtain ⟨a, cap, rfl, h1, h2⟩ := h
  refine ⟨by simp [go_sem], ⟨0, Nat.le_refl _, by simp [go_sem]⟩, ⟨0, by omega, by simp [go_sem]⟩, fun j => by simp [go_sem], by simp, ⟨a, cap, rfl⟩, h1, ?_, hs⟩
  rcases h2 with h2 | ⟨b, off, rfl, h3, h4⟩
  · exact .inl h2
  · exact .inr ⟨b, off, cap, rfl, h3, fun j hj => ((alloc_below w _).cell (p := ⟨b, off + j, none⟩) h3).trans (h4 j hj)⟩

/-- A list of constants, as the laws' choices name it. -/
theorem rd_consts (w : World) (ys : List Int) (h : ys.length ≤ 1000) : Rd (w.alloc (.cells (ys.map (Value.int .i64)).toArray 3)) w.heap.size (.slice (some ⟨w.heap.size, 0, none⟩) ys.length ys.length) ys := by
  have := World.ownsRow_lit (e := 3) (size := 1) (base := w.heap.size) w (ys.map (Value.int .i64)).toArray ys.length (Nat.le_refl _) (by unfold maxLen; omega) (by simp)
  unfold Rd
  simpa using this

theorem among_lit (g : Nat) (v : Value) (xs : List Int) (K : Nat) (ys : List Int) (w : World) (h : Cu w g v xs K) (hK : K ≤ 1000000) (h1 : 1 ≤ ys.length) (h2 : ys.length ≤ 1000) :
    Calls Tryz.prog 73 #[.pointer (some ⟨g, 0, none⟩), .slice (some ⟨w.heap.size, 0, none⟩) ys.length ys.length] (w.alloc (.cells (ys.map (Value.int .i64)).toArray 3)) fun e w' => ∃ x : Int, e = .returned (.int .i64 x) ∧ Cu w' g v xs (K + 2) ∧ w.grownBy w' (some g) := by
  refine (among_any g v xs K w.heap.size ys.length w.heap.size ys _ (h.alloc _) hK (rd_consts w ys h2) (fun e => by have := h.lt; omega) h1 h2).mono ?_
  rintro e w' ⟨x, rfl, hc, hg⟩
  exact ⟨x, rfl, hc, grown_trans (grown_alloc w _ _) hg⟩

end Go.Proofs.YtlbjeiaihenjkaaGreatDoor

/- from 0G: The numbers and bases that the laws draw in most chapters.  -/
namespace Go.Proofs.YtlbjeiaihenjkaaGreatDoor
open Go.RowKit
set_option linter.unusedVariables false
set_option linter.unusedSimpArgs false
set_option maxRecDepth 100000

theorem base_any (g : Nat) (v : Value) (xs : List Int) (K : Nat) (w : World) (h : Cu w g v xs K) (hK : K ≤ 1000) :
    Calls Tryz.prog 70 #[.pointer (some ⟨g, 0, none⟩)] w fun e w' => ∃ z : Int, e = .returned (.int .i64 z) ∧ Cu w' g v xs (K + 2) ∧ w.grownBy w' (some g) := by
  have HA := Lib.hid (among_lit g v xs K [10, 10, 10, 2, 3, 5, 7, 16, 12, 10, 10, 16, 1, 17, 0] w h (by omega) (by simp) (by simp))
  clear h
  go_enter Tryz.func70, Tryz.ntmps70
  go_wp2_with (go_at_call 73; refine HA.out.mono ?_; rintro e w2 ⟨z, rfl, hc, hg⟩; have C2 := Lib.hid hc; have G2 := Lib.hid hg; clear hc hg)
  go_ret
  exact ⟨z, rfl, C2.out, G2.out⟩

theorem sureNumber_any (g : Nat) (v : Value) (xs : List Int) (K : Nat) (w : World) (h : Cu w g v xs K) (hK : K ≤ 1000) :
    Calls Tryz.prog 75 #[.pointer (some ⟨g, 0, none⟩)] w fun e w' => ∃ z : Int, e = .returned (.int .i64 z) ∧ Cu w' g v xs (K + 30) ∧ w.grownBy w' (some g) := by
  have HP8 := Lib.hid (fun (K : Nat) (w' : World) (hK : K ≤ 1000000) (h : Cu w' g v xs K) => pick_any g v xs K 8 w' h hK (by omega) (by omega))
  have HP2 := Lib.hid (fun (K : Nat) (w' : World) (hK : K ≤ 1000000) (h : Cu w' g v xs K) => pick_any g v xs K 256 w' h hK (by omega) (by omega))
  have HP11 := Lib.hid (fun (K : Nat) (w' : World) (hK : K ≤ 1000000) (h : Cu w' g v xs K) => pick_any g v xs K 11 w' h hK (by omega) (by omega))
  have HP10 := Lib.hid (fun (K : Nat) (w' : World) (hK : K ≤ 1000000) (h : Cu w' g v xs K) => pick_any g v xs K 10 w' h hK (by omega) (by omega))
  have HA2 := Lib.hid (fun (K : Nat) (w' : World) (hK : K ≤ 1000000) (h : Cu w' g v xs K) => among_lit g v xs K [0, 1, 9, 10, 99, 100, 153, 370, 1000, 6174, 9999, 999999999999, 1000000000000] w' h hK (by simp) (by simp))
  have H := Lib.hid h
  clear h
  go_enter Tryz.func75, Tryz.ntmps75
  go_wp2_with fail
  refine (HP8.out K _ (by omega) H.out).mono ?_
  rintro e w1 ⟨x, rfl, x0, x1, hc, hg⟩
  have C1 := Lib.hid hc
  have G1 := Lib.hid hg
  clear hc hg
  have hx7 : x ≤ 7 := by omega
  clear x1
  by_cases e0 : x = 0
  · subst e0
    go_wp2_with (go_at_call 71; refine (HP2.out _ _ (by omega) C1.out).mono ?_; rintro e w2 ⟨z, rfl, z0, z1, hc, hg⟩; have C2 := Lib.hid hc; have G2 := Lib.hid (grown_trans G1.out hg); clear hc hg)
    go_ret
    exact ⟨z, rfl, C2.out.mono (by omega), G2.out⟩
  · have b0 : (x == 0) = false := beq_no e0
    by_cases e1 : x = 1
    · subst e1
      clear e0
      go_wp2_with (go_at_call 73; refine (HA2.out _ _ (by omega) C1.out).mono ?_; rintro e w2 ⟨z, rfl, hc, hg⟩; have C2 := Lib.hid hc; have G2 := Lib.hid (grown_trans G1.out hg); clear hc hg)
      go_ret
      exact ⟨z, rfl, C2.out.mono (by omega), G2.out⟩
    · have b1 : (x == 1) = false := beq_no e1
      by_cases e2 : x = 2
      · subst e2
        clear e0 e1
        go_wp2_with fail
        refine (HP2.out _ _ (by omega) C1.out).mono ?_
        rintro e w2 ⟨y, rfl, y0, y1, hc, hg⟩
        have C2 := Lib.hid hc
        have G2 := Lib.hid (grown_trans G1.out hg)
        clear hc hg
        go_wp2_with fail
        refine (HP2.out _ _ (by omega) C2.out).mono ?_
        rintro e w3 ⟨y', rfl, y0', y1', hc, hg⟩
        have C3 := Lib.hid hc
        have G3 := Lib.hid (grown_trans G2.out hg)
        clear hc hg
        have m0 : 0 ≤ y * y' := Int.mul_nonneg y0 y0'
        have m1 : y * y' ≤ 65536 := by
          have := Int.mul_le_mul (show y ≤ 255 by omega) (show y' ≤ 255 by omega) y0' (by omega)
          omega
        go_wp2
        go_ret
        exact ⟨_, rfl, C3.out.mono (by omega), G3.out⟩
      · have b2 : (x == 2) = false := beq_no e2
        clear e0 e1 e2
        go_wp2_with fail
        refine (HP11.out _ _ (by omega) C1.out).mono ?_
        rintro e w2 ⟨y, rfl, y0, y1, hc, hg⟩
        have C2 := Lib.hid hc
        have G2 := Lib.hid (grown_trans G1.out hg)
        obtain ⟨Y, rfl⟩ : ∃ Y : Nat, y = (Y : Int) := ⟨y.toNat, by omega⟩
        have hY : Y ≤ 10 := by omega
        clear hc hg y1
        go_wp2
        go_loopw [3, 4] (fun n k wr => ∃ (z : Int) (j : Nat), n = .int .i64 z ∧ k = .int .i64 (j : Int) ∧ j ≤ 11 ∧ Cu wr g v xs (K + 4 + 2 * (11 - j)) ∧ w.grownBy wr (some g)) (fun _ k _ => (intOf k).toNat)
        case atStart => exact ⟨0, Y + 1, rfl, by go_num, by omega, C2.out.mono (by omega), G2.out⟩
        case round =>
          obtain ⟨z, j, rfl, rfl, hj, hc, hg⟩ := hrel
          have C3 := Lib.hid hc
          have G3 := Lib.hid hg
          clear hc hg
          by_cases hp : 0 < j
          · have hp2 : (0 : Int) < (j : Int) := by omega
            go_wp2_with (go_at_call 71; refine (HP10.out _ _ (by omega) C3.out).mono ?_; rintro e w4 ⟨z', rfl, z0', z1', hc, hg⟩; have C4 := Lib.hid hc; have G4 := Lib.hid (grown_trans G3.out hg); clear hc hg)
            go_roundw
            case rel => exact ⟨_, j - 1, rfl, by go_num, by omega, C4.out.mono (by omega), G4.out⟩
            case measure => simp [intOf]; omega
          · obtain rfl : j = 0 := by omega
            go_wp2
            go_ret
            exact ⟨z, rfl, C3.out.mono (by omega), G3.out⟩

theorem numberD_any (g : Nat) (v : Value) (xs : List Int) (K : Nat) (w : World) (h : Cu w g v xs K) (hK : K ≤ 900) :
    Calls Tryz.prog 69 #[.pointer (some ⟨g, 0, none⟩)] w fun e w' => ∃ z : Int, e = .returned (.int .i64 z) ∧ Cu w' g v xs (K + 32) ∧ w.grownBy w' (some g) := by
  have H1 := Lib.hid (oneD_any g v xs K 20 w h (by omega) (by omega) (by omega))
  clear h
  go_enter Tryz.func69, Tryz.ntmps69
  go_wp2_with fail
  refine H1.out.mono ?_
  rintro e w1 ⟨q, rfl, hc, hg⟩
  have C1 := Lib.hid hc
  have G1 := Lib.hid hg
  clear hc hg
  cases q
  · go_wp2_with (go_at_call 75; refine (sureNumber_any g v xs _ _ C1.out (by omega)).mono ?_; rintro e w2 ⟨z, rfl, hc, hg⟩; have C2 := Lib.hid hc; have G2 := Lib.hid (grown_trans G1.out hg); clear hc hg)
    go_ret
    exact ⟨z, rfl, C2.out.mono (by omega), G2.out⟩
  · go_wp2_with (go_at_call 73; refine (among_lit g v xs _ [-1, 1000000000001, 4611686018427387904, -4611686018427387904] _ C1.out (by omega) (by simp) (by simp)).mono ?_; rintro e w2 ⟨z, rfl, hc, hg⟩; have C2 := Lib.hid hc; have G2 := Lib.hid (grown_trans G1.out hg); clear hc hg)
    go_ret
    exact ⟨z, rfl, C2.out.mono (by omega), G2.out⟩

end Go.Proofs.YtlbjeiaihenjkaaGreatDoor

/- from 0D: The laws' inputs, opened: slices of bytes; two slices held against each other; what is too long.  -/
namespace Go.Proofs.YtlbjeiaihenjkaaGreatDoor
open Go.ChangeShapes Go.WideShapes Go.ChangeAt Go.RowKit
set_option linter.unusedVariables false
set_option linter.unusedSimpArgs false
set_option maxRecDepth 100000

theorem cellsU : Tryz.prog.cellsOf 5 = 1 := by kernel_rfl

theorem sb_open {H : Type} {enc : TypeId × Value → H} {W : World} {base : Nat} {v : Value} {d : DataW H} {p : List MemPlace} (hval : Value.okWide Tryz.prog W .any base 43 v)
    (h : DataW.Trod enc Tryz.prog W 0 (fun _ => true) true 43 v d p) (hlt : ∀ x ∈ p, x.block < W.heap.size) : ∃ xs, Sb W v xs := by
  obtain ⟨a0, len, cap, rfl⟩ := okWide_slice Tryz.underlying43 hval
  obtain ⟨fuel, hf⟩ := h
  rcases open_ints Tryz.underlying43 Tryz.underlying5 cellsU hf with ⟨hcs, hx⟩ | ⟨a, len', cap', zs, hcs, _, hl, hm, hz, hx, hcell, hwz⟩
  · simp [Value.cells] at hcs
    obtain ⟨rfl, rfl, rfl⟩ := hcs
    exact ⟨[], none, 0, rfl, fun x hx => by simp at hx, .inl rfl⟩
  · simp [Value.cells] at hcs
    obtain ⟨rfl, rfl, rfl⟩ := hcs
    simp only [Prod.mk.injEq] at hx
    obtain ⟨rfl, rfl⟩ := hx
    simp only [if_true] at hz
    have hlen : (zs.take len).length = len := by simp; omega
    refine ⟨zs.take len, some a, cap, by rw [hlen], fun x hx => ?_, ?_⟩
    · have h1 := hwz x (List.mem_of_mem_take hx)
      simp [Lit.wf, IntKind.min, IntKind.max, IntKind.signed, IntKind.bits] at h1
      omega
    by_cases hl0 : len = 0
    · left
      rw [hl0]
      rfl
    · right
      obtain ⟨b, off, spot⟩ := a
      have hspot : spot = none := by simpa [Addr.add] using World.cell?_spot (hcell 0 (by omega))
      subst hspot
      have hbW : b < W.heap.size := hlt (.cell b off) (MemPlace.mem_row.2 ⟨0, by omega, by simp⟩)
      refine ⟨b, off, rfl, hbW, fun j hj => ?_⟩
      rw [← add_plain, hcell j (by omega)]
      have hj2 : j < zs.length := by omega
      simp [hj2]

theorem big_any (a0 a1 : Option Addr) (n0 n1 c0 c1 : Nat) (w : World) :
    Calls Tryz.prog 25 #[.slice a0 n0 c0, .slice a1 n1 c1] w fun e w' => e = .returned (.bool (decide (1048576 < n0 ∨ 1048576 < n0 + n1))) ∧ w = w' := by
  by_cases h0 : 1048576 < n0
  · have hd := Lib.hid (show decide (1048576 < n0 ∨ 1048576 < n0 + n1) = true from decide_eq_true (.inl h0))
    have hg : (1048576 : Int) < (n0 : Int) := by omega
    rw [hd.out]
    go_enter Tryz.func25, Tryz.ntmps25
    go_wp2
    go_ret
    exact ⟨rfl, rfl⟩
  · have hg : ¬ (1048576 : Int) < (n0 : Int) := by omega
    have hd := Lib.hid (show decide (1048576 < n0 ∨ 1048576 < n0 + n1) = decide ((1048576 : Int) - (n0 : Int) < (n1 : Int)) by
      by_cases h1 : 1048576 < n0 + n1
      · rw [decide_eq_true (.inr h1), decide_eq_true (by omega)]
      · rw [decide_eq_false (by omega), decide_eq_false (by omega)])
    rw [hd.out]
    go_enter Tryz.func25, Tryz.ntmps25
    go_wp2
    go_ret
    exact ⟨rfl, rfl⟩

end Go.Proofs.YtlbjeiaihenjkaaGreatDoor
