/-
  The draws of chapter 5: digits, mostly, and their base.
-/
import Derived.Test.Ytnggfcopndcppaa0H
import Derived.Test.Ytnggfcopndcppaa0J
import Derived.Test.YtnggfcopndcppaaTG
namespace Go.Proofs.Ytnggfcopndcppaa
open Go.RowKit
set_option linter.unusedVariables false
set_option linter.unusedSimpArgs false
set_option maxRecDepth 100000

theorem grown_ownA {w a c : World} {row : Option Nat} {r : Option Nat} (h : w.grownBy a row) (hg : a.grownBy c r) (hr : ∀ k, r = some k → w.heap.size ≤ k) : w.grownBy c row :=
  ⟨hg.os.trans h.os, hg.tape.trans h.tape, hg.output.trans h.output, Nat.le_trans h.size hg.size, fun k hk hne => (hg.block k (Nat.lt_of_lt_of_le hk h.size) (fun e => by have := hr k e.symm; omega)).trans (h.block k hk hne)⟩
theorem Cu.grown {w w' : World} {g K : Nat} {v : Value} {xs : List Int} {r : Option Nat} (h : Cu w g v xs K) (hg : w.grownBy w' r) (hr : ∀ k, r = some k → g < k) : Cu w' g v xs K :=
  h.keep ((Below.refl _ _).grown hg (Nat.succ_le_of_lt h.lt) (fun k e => hr k e))
/-- What has been drawn so far: a list of its own, the cursor, all else as it was. -/
structure Sd (w wr : World) (g : Nat) (cv : Value) (xs : List Int) (K : Nat) (o : Value) (ls : List Int) : Prop where
  row : Rd wr w.heap.size o ls
  cur : Cu wr g cv xs K
  gr : w.grownBy wr (some g)
  lt : g < w.heap.size
theorem Sd.far {w wr : World} {g : Nat} {cv : Value} {xs : List Int} {K : Nat} {o : Value} {ls : List Int} (h : Sd w wr g cv xs K o ls) : o.ownBlock = none ∨ o.ownBlock ≠ some g := by
  cases e : o.ownBlock with
  | none => exact .inl rfl
  | some k =>
    have := (h.row.lt k e).1
    have := h.lt
    exact .inr (fun c => by simp at c; omega)
theorem Sd.pick {w wr w2 : World} {g : Nat} {cv : Value} {xs : List Int} {K K2 : Nat} {o : Value} {ls : List Int} (h : Sd w wr g cv xs K o ls) (hc : Cu w2 g cv xs K2) (hg : wr.grownBy w2 (some g)) : Sd w w2 g cv xs K2 o ls :=
  ⟨h.row.grown hg h.far, hc, grown_trans h.gr hg, h.lt⟩
theorem Sd.append {w wr w2 : World} {g : Nat} {cv : Value} {xs : List Int} {K : Nat} {o o2 : Value} {ls l2 : List Int} (h : Sd w wr g cv xs K o ls) (hr : Rd w2 w.heap.size o2 l2) (hg : wr.grownBy w2 o.ownBlock) : Sd w w2 g cv xs K o2 l2 :=
  ⟨hr, h.cur.grown hg (fun k e => by have := (h.row.lt k e).1; have := h.lt; omega), grown_ownA h.gr hg (fun k e => (h.row.lt k e).1), h.lt⟩
theorem Sd.alloc {w wr : World} {g : Nat} {cv : Value} {xs : List Int} {K : Nat} {o : Value} {ls : List Int} (h : Sd w wr g cv xs K o ls) (q : Obj) : Sd w (wr.alloc q) g cv xs K o ls :=
  ⟨h.row.alloc q, h.cur.alloc q, grown_trans h.gr (grown_alloc wr q _), h.lt⟩
theorem Sd.mono {w wr : World} {g : Nat} {cv : Value} {xs : List Int} {K K2 : Nat} {o : Value} {ls : List Int} (h : Sd w wr g cv xs K o ls) (hK : K ≤ K2) : Sd w wr g cv xs K2 o ls := ⟨h.row, h.cur.mono hK, h.gr, h.lt⟩
theorem Sd.size {w wr : World} {g : Nat} {cv : Value} {xs : List Int} {K : Nat} {o : Value} {ls : List Int} (h : Sd w wr g cv xs K o ls) : w.heap.size ≤ wr.heap.size := h.gr.size
theorem Sd.below {w wr : World} {g : Nat} {cv : Value} {xs : List Int} {K : Nat} {o : Value} {ls : List Int} {B : Nat} (h : Sd w wr g cv xs K o ls) (hB : B ≤ w.heap.size) (hg : B ≤ g) : Below B w wr := grown_below h.gr hB hg

theorem l1MostD (a b : Int) (w : World) : Calls Try.prog 88 #[.int .i64 a, .int .i64 b] w fun e w' => e = .returned (.int .i64 (max a b)) ∧ w = w' := by
  by_cases h : b < a
  · have hm := Lib.hid (show max a b = a by omega)
    go_enter Try.func88, Try.ntmps88
    go_wp2
    go_ret
    exact ⟨by rw [hm.out]; rfl, rfl⟩
  · have hm := Lib.hid (show max a b = b by omega)
    go_enter Try.func88, Try.ntmps88
    go_wp2
    go_ret
    exact ⟨by rw [hm.out]; rfl, rfl⟩

theorem grown_belowA {w w' : World} {row : Option Nat} (h : Below w.heap.size w w') : w.grownBy w' row := ⟨h.os, h.tape, h.output, h.size, fun k hk _ => h.block k hk⟩
theorem Sd.made {w wr w2 : World} {g : Nat} {cv : Value} {xs : List Int} {K : Nat} {o o2 : Value} {ls l2 : List Int} {gm : Nat} (h : Sd w wr g cv xs K o ls) (hb : Below wr.heap.size wr w2) (hg : wr.heap.size ≤ gm) (hr : Rd w2 gm o2 l2) : Sd w w2 g cv xs K o2 l2 :=
  ⟨hr.mono (Nat.le_trans h.size hg), h.cur.grown (grown_belowA (row := none) hb) (fun k e => by cases e), grown_trans h.gr (grown_belowA hb), h.lt⟩

def lenD : Value → Nat
  | .slice _ n _ => n
  | _ => 0

set_option maxHeartbeats 4000000 in
/-- Digits, mostly, and their base. -/
theorem drawn_digits (g : Nat) (v : Value) (xs : List Int) (K : Nat) (m : Int) (w : World) (h : Cu w g v xs K) (hK : K ≤ 1000) (hm0 : 0 ≤ m) (hm : m ≤ 20) :
    Calls Try.prog 42 #[.pointer (some ⟨g, 0, none⟩), .int .i64 m] w fun e w' => ∃ u ls z, e = .returned (.tuple #[u, .int .i64 z]) ∧ ls.length ≤ 41 ∧ Sd w w' g v xs (K + 200) u ls := by
  have HP := Lib.hid (fun w' K' n (h : Cu w' g v xs K') (hK' : K' ≤ 5000) (h0 : 0 ≤ n) (h1 : n ≤ 100) => pick_any g v xs K' n w' h (by omega) h0 (by omega))
  have HBa := Lib.hid (baseM g v xs K w h (by omega))
  have HS0 := Lib.hid (show Sd w w g v xs K (.slice none 0 0) [] from ⟨Rd.nil _ _, h, World.grownBy.refl _ _, h.lt⟩)
  clear h
  go_enter Try.func42, Try.ntmps42
  go_wp2_with fail
  refine HBa.out.mono ?_
  rintro e w1 ⟨z, rfl, z0, z1, hc, hg⟩
  have HS1 := Lib.hid (HS0.out.pick hc hg)
  clear hc hg
  go_wp2_with (go_at_call 88; refine (l1MostD _ _ _).mono ?_; rintro e w2 ⟨rfl, rfl⟩)
  refine (HP.out _ _ _ HS1.out.cur (by omega) (by omega) (by omega)).mono ?_
  rintro e w3 ⟨d, rfl, d0, d1, hc, hg⟩
  have HS3 := Lib.hid (HS1.out.pick hc hg)
  clear hc hg
  have HS4 := Lib.hid (show Sd w (w3.alloc (.cells #[.int .i64 (1 + d)] 3)) g v xs (K + 4) (.slice (some ⟨w3.heap.size, 0, none⟩) 1 1) [1 + d] from
    ⟨Rd.litB _ _ _ HS3.out.size, HS3.out.cur.alloc _, (HS3.out.alloc _).gr, HS3.out.lt⟩)
  go_wp2_with fail
  refine (HP.out _ _ m HS4.out.cur (by omega) hm0 (by omega)).mono ?_
  rintro e w5 ⟨k0, rfl, k00, k01, hc, hg⟩
  have HS5 := Lib.hid (HS4.out.pick hc hg)
  clear hc hg
  obtain ⟨o5, ho5⟩ : ∃ o5, o5 = Value.slice (some ⟨w3.heap.size, 0, none⟩) 1 1 := ⟨_, rfl⟩
  rw [← ho5] at HS5 ⊢
  clear ho5
  go_wp2
  go_loopw [7, 8] (fun o i wr => ∃ (k : Nat) (ls : List Int), ls.length + k ≤ 21 ∧ 1 ≤ ls.length ∧ i = .int .i64 (k : Int) ∧ Sd w wr g v xs (K + 10 + 2 * ls.length) o ls) (fun _ i _ => (intOf i).toNat)
  case atStart => exact ⟨k0.toNat, [1 + d], by simp; omega, by simp, by rw [show ((k0.toNat : Nat) : Int) = k0 by omega], HS5.out.mono (by simp)⟩
  case round =>
    obtain ⟨k, ls, hkl, hl1, rfl, hs⟩ := hrel
    have HS := Lib.hid hs
    clear hs
    by_cases hk : k = 0
    · subst hk
      go_wp2_with fail
      refine (HP.out _ _ 16 HS.out.cur (by omega) (by omega) (by omega)).mono ?_
      rintro e w6 ⟨q, rfl, q0, q1, hc, hg⟩
      have HS6 := Lib.hid (HS.out.pick hc hg)
      clear hc hg
      obtain ⟨L, hL⟩ : ∃ L, L = ls.length := ⟨_, rfl⟩
      have HL := Lib.hid hL
      obtain ⟨g6, c6, hv6⟩ : ∃ g6 c6, u7 = .slice (some ⟨g6, 0, none⟩) L c6 := by
        rcases HS6.out.row.cases with ⟨h1, h2⟩ | ⟨gg, cap, h1, _⟩
        · exfalso; rw [h2] at hl1; simp at hl1
        · exact ⟨gg, cap, by rw [h1, hL]⟩
      subst hv6
      rw [← hL] at HS6 hl1 hkl
      clear hL
      have HAT := Lib.hid HS6.out.row.at
      by_cases c0 : q = 0
      · subst c0
        clear q0 q1
        go_wp2_with fail
        refine (HP.out _ _ (L : Int) HS6.out.cur (by omega) (by omega) (by omega)).mono ?_
        rintro e w7 ⟨x, rfl, x0, x1, hc, hg⟩
        have HS7 := Lib.hid (HS6.out.pick hc hg)
        clear hc hg
        obtain ⟨X, rfl⟩ : ∃ X : Nat, x = (X : Int) := ⟨x.toNat, by omega⟩
        have hXL : (X : Int) < (L : Int) := by omega
        clear x0 x1
        go_wp2_with fail
        refine (among_at g v xs _ [-1, 0, z, 4611686018427387904] _ HS7.out.cur (by omega) (by simp) (by simp) rfl rfl rfl).mono ?_
        rintro e w8 ⟨y, rfl, hc, hg⟩
        have HS8 := Lib.hid (HS7.out.pick hc hg)
        clear hc hg
        have hc8 := Lib.hid (HS8.out.row.at.2.2.2.2.1 X (by have := HL.out; omega))
        have HS9 := Lib.hid (HS8.out.append (HS8.out.row.set X y).1 (HS8.out.row.set X y).2)
        have z8 := hc8.out
        have z9 := HS8.out.row.at.2.2.2.2.2 X
        go_wp2
        go_ret2
        exact ⟨_, _, _, rfl, by rw [List.length_set]; have := HL.out; omega, HS9.out.mono (by omega)⟩
      by_cases c1 : q = 1
      · subst c1
        clear q0 q1
        go_wp2_with fail
        refine (amongM g v xs _ [0, 1, 2] _ HS6.out.cur (by omega) (by simp) (by simp)).mono ?_
        rintro e w7 ⟨y, rfl, hy, hc, hg⟩
        have HS7 := Lib.hid (HS6.out.pick hc hg)
        clear hc hg
        obtain ⟨Y, rfl, hY⟩ : ∃ Y : Nat, y = (Y : Int) ∧ Y ≤ 2 := by simp at hy; exact ⟨y.toNat, by omega, by omega⟩
        clear hy
        go_wp2_with (refine upon_mkI Y (by omega) ?_; intro gm wm hge hlt hr hbx; have HS8 := Lib.hid (HS7.out.made hbx hge hr); clear hr hbx hge hlt)
        go_ret2
        exact ⟨_, _, _, rfl, by rw [List.length_replicate]; omega, HS8.out.mono (by omega)⟩
      by_cases c2 : q = 2
      · subst c2
        clear q0 q1
        go_wp2_with fail
        refine (HP.out _ _ 2 HS6.out.cur (by omega) (by omega) (by omega)).mono ?_
        rintro e w7 ⟨y, rfl, y0, y1, hc, hg⟩
        have HS7 := Lib.hid (HS6.out.pick hc hg)
        clear hc hg
        obtain ⟨Y, hy, hY, hY2⟩ : ∃ Y : Nat, 40 + y = (Y : Int) ∧ 40 ≤ Y ∧ Y ≤ 41 := ⟨(40 + y).toNat, by omega, by omega, by omega⟩
        have HY := Lib.hid hy
        clear hy
        go_wp2_with (rw [HY.out]; refine upon_mkI Y (by omega) ?_; intro gm wm hge hlt hr hbx; have HS8 := Lib.hid (HS7.out.made hbx hge hr); have z8 := HS8.out.row.at.2.2.2.2.1 0 (by rw [List.length_replicate]; omega); have z9 := HS8.out.row.at.2.2.2.2.2 0; have HS9 := Lib.hid (HS8.out.append (HS8.out.row.set 0 1).1 (HS8.out.row.set 0 1).2); clear hr hbx hge hlt)
        go_ret2
        exact ⟨_, _, _, rfl, by rw [List.length_set, List.length_replicate]; omega, HS9.out.mono (by omega)⟩
      · go_wp2
        go_ret2
        exact ⟨_, _, _, rfl, by have := HL.out; omega, HS6.out.mono (by omega)⟩
    · have hk0 : (0 : Int) < (k : Int) := by omega
      go_wp2_with (go_at_call 88; refine (l1MostD _ _ _).mono ?_; rintro e w6 ⟨rfl, rfl⟩)
      refine (HP.out _ _ _ HS.out.cur (by omega) (by omega) (by omega)).mono ?_
      rintro e w7 ⟨y, rfl, y0, y1, hc, hg⟩
      have HS7 := Lib.hid (HS.out.pick hc hg)
      clear hc hg
      go_wp2_with (at_builtin; refine wpList_appR rfl _ _ rfl w.heap.size w.heap.size _ _ ls [y] rfl rfl (HS7.out.row.alloc _) (Rd.litB _ _ _ HS7.out.size) (by simp; omega) (by have := HS7.out.size; simp; omega) ?_; intro v1 w4 hr4 hg4 hb4; have HS8 := Lib.hid ((HS7.out.alloc _).append hr4 hg4); clear hr4 hg4 hb4)
      go_roundw
      case rel => exact ⟨k - 1, _, by simp; omega, by simp, by go_num, HS8.out.mono (by simp; omega)⟩
      case measure => simp [intOf]; omega

end Go.Proofs.Ytnggfcopndcppaa
