/-
  Joint text of 5D 5E 5M (written by wip/tools/merge.py).
-/
import Derived.Test.Ytnggfcopndcppaa0H
import Derived.Test.Ytnggfcopndcppaa0J
import Derived.Test.YtnggfcopndcppaaTG
import Derived.Test.YtnggfcopndcppaaTI
import Derived.Test.Ytnggfcopndcppaa5R
import Derived.Test.Ytnggfcopndcppaa5L
import Derived.Test.YtnggfcopndcppaaTXY
import Derived.Test.YtnggfcopndcppaaTK5
import Derived.Test.YtnggfcopndcppaaNAB
/- from X5D -/
namespace Go.Proofs.Ytnggfcopndcppaa
open Go.RowKit
set_option linter.unusedVariables false
set_option linter.unusedSimpArgs false
set_option maxRecDepth 100000

theorem grown_ownA {w a c : World} {row : Option Nat} {r : Option Nat} (h : w.grownBy a row) (hg : a.grownBy c r) (hr : ∀ k, r = some k → w.heap.size ≤ k) : w.grownBy c row :=
  ⟨hg.os.trans h.os, hg.tape.trans h.tape, hg.output.trans h.output, Nat.le_trans h.size hg.size, fun k hk hne => (hg.block k (Nat.lt_of_lt_of_le hk h.size) (fun e => by have := hr k e.symm; omega)).trans (h.block k hk hne)⟩
theorem Cu.grown {w w' : World} {g K : Nat} {v : Value} {xs : List Int} {r : Option Nat} (h : Cu w g v xs K) (hg : w.grownBy w' r) (hr : ∀ k, r = some k → g < k) : Cu w' g v xs K :=
  h.keep ((Below.refl _ _).grown hg (Nat.succ_le_of_lt h.lt) (fun k e => hr k e))
/-- What has been drawn so far: a list of its own, the cursor, all else as it was. -/
structure Sd (w wr : World) (g : Nat) (cv : Value) (xs : List Int) (K : Nat) (o : Value) (ls : List Int) : Prop where
  row : Rd wr w.heap.size o ls
  cur : Cu wr g cv xs K
  gr : w.grownBy wr (some g)
  lt : g < w.heap.size
theorem Sd.far {w wr : World} {g : Nat} {cv : Value} {xs : List Int} {K : Nat} {o : Value} {ls : List Int} (h : Sd w wr g cv xs K o ls) : o.ownBlock = none ∨ o.ownBlock ≠ some g := by
  cases e : o.ownBlock with
  | none => exact .inl rfl
  | some k =>
    have := (h.row.lt k e).1
    have := h.lt
    exact .inr (fun c => by simp at c; omega)
theorem Sd.pick {w wr w2 : World} {g : Nat} {cv : Value} {xs : List Int} {K K2 : Nat} {o : Value} {ls : List Int} (h : Sd w wr g cv xs K o ls) (hc : Cu w2 g cv xs K2) (hg : wr.grownBy w2 (some g)) : Sd w w2 g cv xs K2 o ls :=
  ⟨h.row.grown hg h.far, hc, grown_trans h.gr hg, h.lt⟩
theorem Sd.append {w wr w2 : World} {g : Nat} {cv : Value} {xs : List Int} {K : Nat} {o o2 : Value} {ls l2 : List Int} (h : Sd w wr g cv xs K o ls) (hr : Rd w2 w.heap.size o2 l2) (hg : wr.grownBy w2 o.ownBlock) : Sd w w2 g cv xs K o2 l2 :=
  ⟨hr, h.cur.grown hg (fun k e => by have := (h.row.lt k e).1; have := h.lt; omega), grown_ownA h.gr hg (fun k e => (h.row.lt k e).1), h.lt⟩
theorem Sd.alloc {w wr : World} {g : Nat} {cv : Value} {xs : List Int} {K : Nat} {o : Value} {ls : List Int} (h : Sd w wr g cv xs K o ls) (q : Obj) : Sd w (wr.alloc q) g cv xs K o ls :=
  ⟨h.row.alloc q, h.cur.alloc q, grown_trans h.gr (grown_alloc wr q _), h.lt⟩
theorem Sd.mono {w wr : World} {g : Nat} {cv : Value} {xs : List Int} {K K2 : Nat} {o : Value} {ls : List Int} (h : Sd w wr g cv xs K o ls) (hK : K ≤ K2) : Sd w wr g cv xs K2 o ls := ⟨h.row, h.cur.mono hK, h.gr, h.lt⟩
theorem Sd.size {w wr : World} {g : Nat} {cv : Value} {xs : List Int} {K : Nat} {o : Value} {ls : List Int} (h : Sd w wr g cv xs K o ls) : w.heap.size ≤ wr.heap.size := h.gr.size
theorem Sd.below {w wr : World} {g : Nat} {cv : Value} {xs : List Int} {K : Nat} {o : Value} {ls : List Int} {B : Nat} (h : Sd w wr g cv xs K o ls) (hB : B ≤ w.heap.size) (hg : B ≤ g) : Below B w wr := grown_below h.gr hB hg

theorem l1MostD (a b : Int) (w : World) : Calls Try.prog 88 #[.int .i64 a, .int .i64 b] w fun e w' => e = .returned (.int .i64 (max a b)) ∧ w = w' := by
  by_cases h : b < a
  · have hm := Lib.hid (show max a b = a by omega)
    go_enter Try.func88, Try.ntmps88
    go_wp2
    go_ret
    exact ⟨by rw [hm.out]; rfl, rfl⟩
  · have hm := Lib.hid (show max a b = b by omega)
    go_enter Try.func88, Try.ntmps88
    go_wp2
    go_ret
    exact ⟨by rw [hm.out]; rfl, rfl⟩

theorem grown_belowA {w w' : World} {row : Option Nat} (h : Below w.heap.size w w') : w.grownBy w' row := ⟨h.os, h.tape, h.output, h.size, fun k hk _ => h.block k hk⟩
theorem Sd.made {w wr w2 : World} {g : Nat} {cv : Value} {xs : List Int} {K : Nat} {o o2 : Value} {ls l2 : List Int} {gm : Nat} (h : Sd w wr g cv xs K o ls) (hb : Below wr.heap.size wr w2) (hg : wr.heap.size ≤ gm) (hr : Rd w2 gm o2 l2) : Sd w w2 g cv xs K o2 l2 :=
  ⟨hr.mono (Nat.le_trans h.size hg), h.cur.grown (grown_belowA (row := none) hb) (fun k e => by cases e), grown_trans h.gr (grown_belowA hb), h.lt⟩

def lenD : Value → Nat
  | .slice _ n _ => n
  | _ => 0

set_option maxHeartbeats 4000000 in
/-- Digits, mostly, and their base. -/
theorem drawn_digits (g : Nat) (v : Value) (xs : List Int) (K : Nat) (m : Int) (w : World) (h : Cu w g v xs K) (hK : K ≤ 1000) (hm0 : 0 ≤ m) (hm : m ≤ 20) :
    Calls Try.prog 42 #[.pointer (some ⟨g, 0, none⟩), .int .i64 m] w fun e w' => ∃ u ls z, e = .returned (.tuple #[u, .int .i64 z]) ∧ ls.length ≤ 41 ∧ Sd w w' g v xs (K + 200) u ls := by
  have HP := Lib.hid (fun w' K' n (h : Cu w' g v xs K') (hK' : K' ≤ 5000) (h0 : 0 ≤ n) (h1 : n ≤ 100) => pick_any g v xs K' n w' h (by omega) h0 (by omega))
  have HBa := Lib.hid (baseM g v xs K w h (by omega))
  have HS0 := Lib.hid (show Sd w w g v xs K (.slice none 0 0) [] from ⟨Rd.nil _ _, h, World.grownBy.refl _ _, h.lt⟩)
  clear h
  go_enter Try.func42, Try.ntmps42
  go_wp2_with fail
  refine HBa.out.mono ?_
  rintro e w1 ⟨z, rfl, z0, z1, hc, hg⟩
  have HS1 := Lib.hid (HS0.out.pick hc hg)
  clear hc hg
  go_wp2_with (go_at_call 88; refine (l1MostD _ _ _).mono ?_; rintro e w2 ⟨rfl, rfl⟩)
  refine (HP.out _ _ _ HS1.out.cur (by omega) (by omega) (by omega)).mono ?_
  rintro e w3 ⟨d, rfl, d0, d1, hc, hg⟩
  have HS3 := Lib.hid (HS1.out.pick hc hg)
  clear hc hg
  have HS4 := Lib.hid (show Sd w (w3.alloc (.cells #[.int .i64 (1 + d)] 3)) g v xs (K + 4) (.slice (some ⟨w3.heap.size, 0, none⟩) 1 1) [1 + d] from
    ⟨Rd.litB _ _ _ HS3.out.size, HS3.out.cur.alloc _, (HS3.out.alloc _).gr, HS3.out.lt⟩)
  go_wp2_with fail
  refine (HP.out _ _ m HS4.out.cur (by omega) hm0 (by omega)).mono ?_
  rintro e w5 ⟨k0, rfl, k00, k01, hc, hg⟩
  have HS5 := Lib.hid (HS4.out.pick hc hg)
  clear hc hg
  obtain ⟨o5, ho5⟩ : ∃ o5, o5 = Value.slice (some ⟨w3.heap.size, 0, none⟩) 1 1 := ⟨_, rfl⟩
  rw [← ho5] at HS5 ⊢
  clear ho5
  go_wp2
  go_loopw [7, 8] (fun o i wr => ∃ (k : Nat) (ls : List Int), ls.length + k ≤ 21 ∧ 1 ≤ ls.length ∧ i = .int .i64 (k : Int) ∧ Sd w wr g v xs (K + 10 + 2 * ls.length) o ls) (fun _ i _ => (intOf i).toNat)
  case atStart => exact ⟨k0.toNat, [1 + d], by simp; omega, by simp, by rw [show ((k0.toNat : Nat) : Int) = k0 by omega], HS5.out.mono (by simp)⟩
  case round =>
    obtain ⟨k, ls, hkl, hl1, rfl, hs⟩ := hrel
    have HS := Lib.hid hs
    clear hs
    by_cases hk : k = 0
    · subst hk
      go_wp2_with fail
      refine (HP.out _ _ 16 HS.out.cur (by omega) (by omega) (by omega)).mono ?_
      rintro e w6 ⟨q, rfl, q0, q1, hc, hg⟩
      have HS6 := Lib.hid (HS.out.pick hc hg)
      clear hc hg
      obtain ⟨L, hL⟩ : ∃ L, L = ls.length := ⟨_, rfl⟩
      have HL := Lib.hid hL
      obtain ⟨g6, c6, hv6⟩ : ∃ g6 c6, u7 = .slice (some ⟨g6, 0, none⟩) L c6 := by
        rcases HS6.out.row.cases with ⟨h1, h2⟩ | ⟨gg, cap, h1, _⟩
        · exfalso; rw [h2] at hl1; simp at hl1
        · exact ⟨gg, cap, by rw [h1, hL]⟩
      subst hv6
      rw [← hL] at HS6 hl1 hkl
      clear hL
      have HAT := Lib.hid HS6.out.row.at
      by_cases c0 : q = 0
      · subst c0
        clear q0 q1
        go_wp2_with fail
        refine (HP.out _ _ (L : Int) HS6.out.cur (by omega) (by omega) (by omega)).mono ?_
        rintro e w7 ⟨x, rfl, x0, x1, hc, hg⟩
        have HS7 := Lib.hid (HS6.out.pick hc hg)
        clear hc hg
        obtain ⟨X, rfl⟩ : ∃ X : Nat, x = (X : Int) := ⟨x.toNat, by omega⟩
        have hXL : (X : Int) < (L : Int) := by omega
        clear x0 x1
        go_wp2_with fail
        refine (among_at g v xs _ [-1, 0, z, 4611686018427387904] _ HS7.out.cur (by omega) (by simp) (by simp) rfl rfl rfl).mono ?_
        rintro e w8 ⟨y, rfl, hc, hg⟩
        have HS8 := Lib.hid (HS7.out.pick hc hg)
        clear hc hg
        have hc8 := Lib.hid (HS8.out.row.at.2.2.2.2.1 X (by have := HL.out; omega))
        have HS9 := Lib.hid (HS8.out.append (HS8.out.row.set X y).1 (HS8.out.row.set X y).2)
        have z8 := hc8.out
        have z9 := HS8.out.row.at.2.2.2.2.2 X
        go_wp2
        go_ret2
        exact ⟨_, _, _, rfl, by rw [List.length_set]; have := HL.out; omega, HS9.out.mono (by omega)⟩
      by_cases c1 : q = 1
      · subst c1
        clear q0 q1
        go_wp2_with fail
        refine (amongM g v xs _ [0, 1, 2] _ HS6.out.cur (by omega) (by simp) (by simp)).mono ?_
        rintro e w7 ⟨y, rfl, hy, hc, hg⟩
        have HS7 := Lib.hid (HS6.out.pick hc hg)
        clear hc hg
        obtain ⟨Y, rfl, hY⟩ : ∃ Y : Nat, y = (Y : Int) ∧ Y ≤ 2 := by simp at hy; exact ⟨y.toNat, by omega, by omega⟩
        clear hy
        go_wp2_with (refine upon_mkI Y (by omega) ?_; intro gm wm hge hlt hr hbx; have HS8 := Lib.hid (HS7.out.made hbx hge hr); clear hr hbx hge hlt)
        go_ret2
        exact ⟨_, _, _, rfl, by rw [List.length_replicate]; omega, HS8.out.mono (by omega)⟩
      by_cases c2 : q = 2
      · subst c2
        clear q0 q1
        go_wp2_with fail
        refine (HP.out _ _ 2 HS6.out.cur (by omega) (by omega) (by omega)).mono ?_
        rintro e w7 ⟨y, rfl, y0, y1, hc, hg⟩
        have HS7 := Lib.hid (HS6.out.pick hc hg)
        clear hc hg
        obtain ⟨Y, hy, hY, hY2⟩ : ∃ Y : Nat, 40 + y = (Y : Int) ∧ 40 ≤ Y ∧ Y ≤ 41 := ⟨(40 + y).toNat, by omega, by omega, by omega⟩
        have HY := Lib.hid hy
        clear hy
        go_wp2_with (rw [HY.out]; refine upon_mkI Y (by omega) ?_; intro gm wm hge hlt hr hbx; have HS8 := Lib.hid (HS7.out.made hbx hge hr); have z8 := HS8.out.row.at.2.2.2.2.1 0 (by rw [List.length_replicate]; omega); have z9 := HS8.out.row.at.2.2.2.2.2 0; have HS9 := Lib.hid (HS8.out.append (HS8.out.row.set 0 1).1 (HS8.out.row.set 0 1).2); clear hr hbx hge hlt)
        go_ret2
        exact ⟨_, _, _, rfl, by rw [List.length_set, List.length_replicate]; omega, HS9.out.mono (by omega)⟩
      · go_wp2
        go_ret2
        exact ⟨_, _, _, rfl, by have := HL.out; omega, HS6.out.mono (by omega)⟩
    · have hk0 : (0 : Int) < (k : Int) := by omega
      go_wp2_with (go_at_call 88; refine (l1MostD _ _ _).mono ?_; rintro e w6 ⟨rfl, rfl⟩)
      refine (HP.out _ _ _ HS.out.cur (by omega) (by omega) (by omega)).mono ?_
      rintro e w7 ⟨y, rfl, y0, y1, hc, hg⟩
      have HS7 := Lib.hid (HS.out.pick hc hg)
      clear hc hg
      go_wp2_with (at_builtin; refine wpList_appR rfl _ _ rfl w.heap.size w.heap.size _ _ ls [y] rfl rfl (HS7.out.row.alloc _) (Rd.litB _ _ _ HS7.out.size) (by simp; omega) (by have := HS7.out.size; simp; omega) ?_; intro v1 w4 hr4 hg4 hb4; have HS8 := Lib.hid ((HS7.out.alloc _).append hr4 hg4); clear hr4 hg4 hb4)
      go_roundw
      case rel => exact ⟨k - 1, _, by simp; omega, by simp, by go_num, HS8.out.mono (by simp; omega)⟩
      case measure => simp [intOf]; omega

end Go.Proofs.Ytnggfcopndcppaa

/- from X5E -/
namespace Go.Proofs.Ytnggfcopndcppaa
open Go.RowKit
set_option linter.unusedVariables false
set_option linter.unusedSimpArgs false
set_option maxRecDepth 100000

theorem draw_AddReversed (v : Value) (xs : List Int) (w : World) (h : Sb w v xs) (hs : xs.length ≤ 1048576) :
    Calls Try.prog 7 #[v] w fun e w' => ∃ u ls z, e = .returned (.tuple #[u, .int .i64 z]) ∧ ls.length ≤ 41 ∧ Rd w' w.heap.size u ls ∧ Below w.heap.size w w' := by
  have HC := Lib.hid (Cu.start h hs)
  obtain ⟨a, cap, rfl⟩ := h.len
  have HB := Lib.hid (alloc_below w (.cells #[.slice a xs.length cap, .int .i64 0, .int .u64 0] 53))
  clear h
  go_enter Try.func7, Try.ntmps7
  go_wp2_with fail
  refine (drawn_digits w.heap.size _ xs 0 9 _ HC.out (by omega) (by omega) (by omega)).mono ?_
  rintro e w1 ⟨u, ls, z, rfl, hl, hd⟩
  have HD := Lib.hid hd
  have HL := Lib.hid hl
  clear hd hl
  go_wp2
  go_ret2
  exact ⟨_, _, _, rfl, HL.out, HD.out.row.mono (by simp), HB.out.trans (HD.out.below (by simp) (Nat.le_refl _))⟩

set_option maxHeartbeats 2000000 in
theorem added_any (g : Nat) (v : Value) (xs : List Int) (K : Nat) (w : World) (h : Cu w g v xs K) (hK : K ≤ 1000) :
    Calls Try.prog 57 #[.pointer (some ⟨g, 0, none⟩)] w fun e w' => ∃ u ls z, e = .returned (.tuple #[u, .int .i64 z]) ∧ ls.length ≤ 41 ∧ Sd w w' g v xs (K + 210) u ls := by
  have HDD := Lib.hid (drawn_digits g v xs K 7 w h hK (by omega) (by omega))
  clear h
  go_enter Try.func57, Try.ntmps57
  go_wp2_with fail
  refine HDD.out.mono ?_
  rintro e w1 ⟨u, ls, z, rfl, hl, hd⟩
  have HD := Lib.hid hd
  have HL := Lib.hid hl
  have HG := Lib.hid (rvGood_any u ls z w.heap.size w1 hd.row (by omega))
  clear hd hl
  rcases okR_cases z ls with ⟨ho, hdg⟩ | ho
  · have HDG := Lib.hid hdg
    rw [ho] at HG
    have HO := Lib.hid (one_any g v xs (K + 200) 2 w1 HD.out.cur (by omega) (by omega) (by omega))
    clear ho hdg
    go_wp2_with fail
    refine HG.out.mono ?_
    rintro e w2 ⟨rfl, rfl⟩
    go_wp2_with fail
    refine HO.out.mono ?_
    rintro e w3 ⟨q, rfl, hc, hgr⟩
    have HD3 := Lib.hid (HD.out.pick hc hgr)
    clear hc hgr
    cases q
    · go_wp2
      go_ret2
      exact ⟨_, _, _, rfl, HL.out, HD3.out.mono (by omega)⟩
    · have HA := Lib.hid (rvAdd_any u ls z w.heap.size w3 HD3.out.row HDG.out)
      go_wp2_with fail
      refine HA.out.mono ?_
      rintro e w4 ⟨u1, u2, rfl, hr1, hr2, hb⟩
      have HD4 := Lib.hid (HD3.out.made hb (Nat.le_refl _) hr1)
      have HD5 := Lib.hid (show Sd w w4 g v xs (K + 200 + 2) u ls from ⟨HD3.out.row.keep hb, HD4.out.cur, HD4.out.gr, HD4.out.lt⟩)
      obtain ⟨a1, c1, rfl⟩ := hr1.sl.len
      obtain ⟨N, hN⟩ : ∃ N, N = (rvA z ls).length := ⟨_, rfl⟩
      have HN := Lib.hid hN
      rw [← hN] at HD4 ⊢
      clear hr1 hr2 hb hN
      by_cases hle : N ≤ 40
      · have hle2 : (N : Int) ≤ 40 := by omega
        go_wp2
        go_ret2
        exact ⟨_, _, _, rfl, by have := HN.out; omega, HD4.out.mono (by omega)⟩
      · have hle2 : ¬ (N : Int) ≤ 40 := by omega
        go_wp2
        go_ret2
        exact ⟨_, _, _, rfl, HL.out, HD5.out.mono (by omega)⟩
  · rw [ho] at HG
    clear ho
    go_wp2_with fail
    refine HG.out.mono ?_
    rintro e w2 ⟨rfl, rfl⟩
    go_wp2
    go_ret2
    exact ⟨_, _, _, rfl, HL.out, HD.out.mono (by omega)⟩

theorem draw_IsSymmetric (v : Value) (xs : List Int) (w : World) (h : Sb w v xs) (hs : xs.length ≤ 1048576) :
    Calls Try.prog 20 #[v] w fun e w' => ∃ u ls z, e = .returned (.tuple #[u, .int .i64 z]) ∧ ls.length ≤ 41 ∧ Rd w' w.heap.size u ls ∧ Below w.heap.size w w' := by
  have HC := Lib.hid (Cu.start h hs)
  obtain ⟨a, cap, rfl⟩ := h.len
  have HB := Lib.hid (alloc_below w (.cells #[.slice a xs.length cap, .int .i64 0, .int .u64 0] 53))
  clear h
  go_enter Try.func20, Try.ntmps20
  go_wp2_with fail
  refine (added_any w.heap.size _ xs 0 _ HC.out (by omega)).mono ?_
  rintro e w1 ⟨u, ls, z, rfl, hl, hd⟩
  have HD := Lib.hid hd
  have HL := Lib.hid hl
  clear hd hl
  go_wp2
  go_ret2
  exact ⟨_, _, _, rfl, HL.out, HD.out.row.mono (by simp), HB.out.trans (HD.out.below (by simp) (Nat.le_refl _))⟩

end Go.Proofs.Ytnggfcopndcppaa

/- from X5M -/
namespace Go.Proofs.Ytnggfcopndcppaa
open Go.RowKit
set_option linter.unusedVariables false
set_option linter.unusedSimpArgs false
set_option maxRecDepth 100000

theorem qSameRows_same (v u : Value) (vs us : List Value) (Z : Nat → List Int) (B C : Nat) (w : World) (h : LLf w B v vs Z) (h2 : LLf w C u us Z) (hn : vs.length = us.length) (hm : vs.length ≤ 40000) (hz : ∀ i, (Z i).length ≤ 2000000) :
    Calls Try.prog 27 #[v, u] w fun e w' => e = .returned (.bool true) ∧ Below w.heap.size w w' := by
  have H := Lib.hid h
  have H2 := Lib.hid h2
  have HZ := Lib.hid hz
  obtain ⟨a, cap, rfl, ha⟩ := h.shape
  obtain ⟨a2, cap2, rfl, ha2⟩ := h2.shape
  have HA := Lib.hid ha
  have HA2 := Lib.hid ha2
  obtain ⟨N, hN⟩ : ∃ N, N = vs.length := ⟨_, rfl⟩
  have HN := Lib.hid hN
  have HN2 := Lib.hid (hN.trans hn)
  rw [← hN] at hm
  have hne : ((N : Int) != (N : Int)) = false := bne_no rfl
  rw [← hn, ← hN]
  rw [← hN] at H
  rw [← hn, ← hN] at H2
  clear h h2 ha ha2 hn hN hz
  go_enter Try.func27, Try.ntmps27
  go_wp2
  go_loopw [13] (fun i wr => ∃ k : Nat, k ≤ N ∧ i = .int .i64 k ∧ Below w.heap.size w wr) (fun i _ => N - (intOf i).toNat)
  case atStart => exact ⟨0, Nat.zero_le _, rfl, Below.refl _ _⟩
  case round =>
    obtain ⟨k, hk, rfl, hb⟩ := hrel
    have HB := Lib.hid hb
    clear hb
    by_cases hlt : k < N
    · rcases HA.out with hx | ⟨gv, rfl⟩
      · have := HN.out; rw [hx] at this; simp at this; omega
      rcases HA2.out with hx | ⟨gv2, rfl⟩
      · have := HN2.out; rw [hx] at this; simp at this; omega
      obtain ⟨z, hz⟩ : ∃ z, vs[k]? = some z := ⟨vs[k]'(by rw [← HN.out]; exact hlt), by simp⟩
      obtain ⟨z2, hz2⟩ : ∃ z, us[k]? = some z := ⟨us[k]'(by rw [← HN2.out]; exact hlt), by simp⟩
      have hc1 := (H.out.keep HB.out).cell hz
      have hc2 := (H2.out.keep HB.out).cell hz2
      have R1 := Lib.hid ((H.out.keep HB.out).at' k z hz)
      have R2 := Lib.hid ((H2.out.keep HB.out).at' k z2 hz2)
      obtain ⟨b1, d1, rfl⟩ := R1.out.shape'
      obtain ⟨b2, d2, rfl⟩ := R2.out.shape'
      clear hz hz2
      have R1d := Lib.hid (R1.out.drew.sl)
      have R2d := Lib.hid (R2.out.drew.sl)
      have HBd := Lib.hid (HB.out.drew)
      go_wp2
      go_region_with (go_at_call 16; refine (qSame_any _ _ (Z k) wr.drew R1d.out R2d.out (HZ.out k)).mono ?_; rintro e w1 ⟨rfl, hb⟩; have HB1 := Lib.hid (Below.step HBd.out HBd.out.size hb); clear hb)
      all_goals
        go_wp2
        go_roundw
        case rel => exact ⟨k + 1, by omega, by go_num, HB1.out⟩
        case measure => simp [intOf]; omega
    · obtain rfl : k = N := by omega
      go_wp2
      go_ret
      exact ⟨rfl, HB.out⟩

theorem qSum_mid (v : Value) (xs : List Int) (w : World) (hv : Sl w v xs) (hl : xs.length ≤ 100) (hx9 : ∀ x ∈ xs, 0 ≤ x ∧ x ≤ 20000) :
    Calls Try.prog 17 #[v] w fun e w' => e = .returned (.int .i64 xs.sum) ∧ Below w.heap.size w w' := by
  obtain ⟨a, cap, rfl, hx⟩ := hv
  have HX := Lib.hid hx
  have HS := Lib.hid (show ∀ k, 0 ≤ (xs.take k).sum ∧ (xs.take k).sum ≤ 20000 * k from fun k => by
    induction k with
    | zero => simp
    | succ k ih =>
      by_cases hk : k < xs.length
      · rw [take_snoc' xs k hk, List.sum_append]
        have := hx9 _ (List.getElem_mem hk)
        simp
        omega
      · rw [List.take_of_length_le (by omega)] at ih ⊢
        omega)
  have H9 := Lib.hid hx9
  obtain ⟨n, hn⟩ : ∃ n, xs.length = n := ⟨_, rfl⟩
  have HN := Lib.hid hn
  rw [hn] at hl ⊢
  clear hx hn hx9
  go_enter Try.func17, Try.ntmps17
  go_wp2
  go_loopw [3, 8] (fun t i wr => ∃ k : Nat, ∃ T : Int, k ≤ n ∧ i = .int .i64 k ∧ t = .int .i64 T ∧ Hid (T = (xs.take k).sum) ∧ 0 ≤ T ∧ T ≤ 20000 * k ∧ Below w.heap.size w wr) (fun _ i _ => n - (intOf i).toNat)
  case atStart => exact ⟨0, 0, Nat.zero_le _, rfl, rfl, Lib.hid (by simp), by omega, by omega, Below.refl _ _⟩
  case round =>
    obtain ⟨k, T, hk, rfl, rfl, HT, t0, t1, hb⟩ := hrel
    have HB := Lib.hid hb
    clear hb
    by_cases hlt : k < n
    · have hlx : k < xs.length := by rw [HN.out]; exact hlt
      rcases HX.out with hx | ⟨b, off, rfl, hbl, hc⟩
      · rw [hx] at hlx; simp at hlx
      have hcell : wr.cell? ⟨b, off + k, none⟩ = some (.int .i64 xs[k]) := (HB.out.cell (p := ⟨b, off + k, none⟩) hbl).trans (hc k hlx)
      obtain ⟨x0, x1⟩ := H9.out _ (List.getElem_mem hlx)
      have hsn := take_snoc' xs k hlx
      obtain ⟨x, hx⟩ : ∃ x, x = xs[k] := ⟨_, rfl⟩
      rw [← hx] at hcell x0 x1 hsn
      have HS2 := Lib.hid (show T + x = (xs.take (k + 1)).sum by rw [hsn, List.sum_append, ← HT.out]; simp)
      clear hc hx hlx hsn
      go_wp2
      go_roundw
      case rel => exact ⟨k + 1, T + x, by omega, by go_num, by go_num, HS2, by omega, by omega, HB.out⟩
      case measure => simp [intOf]; omega
    · obtain rfl : k = n := by omega
      have HE := Lib.hid (show T = xs.sum by have h5 := HT.out; rw [List.take_of_length_le (by rw [HN.out]; exact Nat.le_refl _)] at h5; exact h5)
      go_wp2
      go_ret
      exact ⟨by rw [HE.out]; rfl, HB.out⟩

theorem times_any (g : Nat) (v : Value) (xs : List Int) (K : Nat) (w : World) (h : Cu w g v xs K) (hK : K ≤ 900) :
    Calls Try.prog 72 #[.pointer (some ⟨g, 0, none⟩)] w fun e w' => ∃ z : Int, e = .returned (.int .i64 z) ∧ w.grownBy w' (some g) := by
  have HO := Lib.hid (one_any g v xs K 8 w h (by omega) (by omega) (by omega))
  clear h
  go_enter Try.func72, Try.ntmps72
  go_wp2_with fail
  refine HO.out.mono ?_
  rintro e w1 ⟨q, rfl, hc, hg⟩
  have C1 := Lib.hid hc
  have G1 := Lib.hid hg
  clear hc hg
  cases q
  · go_wp2_with fail
    refine (pick_any g v xs _ 30 _ C1.out (by omega) (by omega) (by omega)).mono ?_
    rintro e w2 ⟨x, rfl, _, _, _, hg⟩
    have G2 := Lib.hid (grown_trans G1.out hg)
    clear hg
    go_wp2
    go_ret
    exact ⟨_, rfl, G2.out⟩
  · go_wp2_with fail
    refine (among_at g v xs _ [-1, 0, 100, 101] _ C1.out (by omega) (by simp) (by simp) rfl rfl rfl).mono ?_
    rintro e w2 ⟨x, rfl, _, hg⟩
    have G2 := Lib.hid (grown_trans G1.out hg)
    clear hg
    go_wp2
    go_ret
    exact ⟨_, rfl, G2.out⟩

theorem draw_StepsToSymmetric (v : Value) (xs : List Int) (w : World) (h : Sb w v xs) (hs : xs.length ≤ 1048576) :
    Calls Try.prog 59 #[v] w fun e w' => ∃ u ls z m, e = .returned (.tuple #[u, .int .i64 z, .int .i64 m]) ∧ ls.length ≤ 41 ∧ Rd w' w.heap.size u ls ∧ Below w.heap.size w w' := by
  have HC := Lib.hid (Cu.start h hs)
  obtain ⟨a, cap, rfl⟩ := h.len
  have HB := Lib.hid (alloc_below w (.cells #[.slice a xs.length cap, .int .i64 0, .int .u64 0] 53))
  clear h
  go_enter Try.func59, Try.ntmps59
  go_wp2_with fail
  refine (drawn_digits w.heap.size _ xs 0 6 _ HC.out (by omega) (by omega) (by omega)).mono ?_
  rintro e w1 ⟨u, ls, z, rfl, hl, hd⟩
  have HD := Lib.hid hd
  have HL := Lib.hid hl
  clear hd hl
  go_wp2_with fail
  refine (times_any w.heap.size _ xs _ _ HD.out.cur (by omega)).mono ?_
  rintro e w2 ⟨m, rfl, hg⟩
  have HB1 := Lib.hid (HB.out.trans (HD.out.below (by simp) (Nat.le_refl _)))
  have HB2 := Lib.hid (HB1.out.trans (grown_below hg HB1.out.size (Nat.le_refl _)))
  have HR := Lib.hid (HD.out.row.grown hg (.inr (fun e => by have := HD.out.row.lt _ e; simp at this; omega)))
  clear hg
  go_wp2
  go_ret3
  exact ⟨_, _, _, _, rfl, HL.out, HR.out.mono (by simp), HB2.out⟩

theorem draw_AddedRun (v : Value) (xs : List Int) (w : World) (h : Sb w v xs) (hs : xs.length ≤ 1048576) :
    Calls Try.prog 22 #[v] w fun e w' => ∃ u ls z m, e = .returned (.tuple #[u, .int .i64 z, .int .i64 m]) ∧ ls.length ≤ 41 ∧ Rd w' w.heap.size u ls ∧ Below w.heap.size w w' := by
  have HD := Lib.hid (draw_StepsToSymmetric v xs w h hs)
  clear h
  go_enter Try.func22, Try.ntmps22
  go_wp2_with fail
  refine HD.out.mono ?_
  rintro e w1 ⟨u, ls, z, m, rfl, hl, hr, hb⟩
  have R := Lib.hid hr
  have B := Lib.hid hb
  clear hr hb
  go_wp2
  go_ret3
  exact ⟨_, _, _, _, rfl, hl, R.out, B.out⟩

theorem draw_NeverWord (v : Value) (xs : List Int) (w : World) (h : Sb w v xs) (hs : xs.length ≤ 1048576) :
    Calls Try.prog 33 #[v] w fun e w' => ∃ z : Int, e = .returned (.int .i64 z) ∧ (0 ≤ z ∧ z ≤ 20) ∧ Below w.heap.size w w' := by
  have HC := Lib.hid (Cu.start h hs)
  obtain ⟨a, cap, rfl⟩ := h.len
  have HB := Lib.hid (alloc_below w (.cells #[.slice a xs.length cap, .int .i64 0, .int .u64 0] 53))
  clear h
  go_enter Try.func33, Try.ntmps33
  go_wp2_with fail
  refine (pick_any w.heap.size _ xs _ 20 _ HC.out (by omega) (by omega) (by omega)).mono ?_
  rintro e w1 ⟨z, rfl, x0, x1, _, hg⟩
  have HB1 := Lib.hid (HB.out.trans (grown_below hg (by simp) (Nat.le_refl _)))
  have hz : 0 ≤ z ∧ z ≤ 20 := by omega
  clear hg x0 x1
  go_wp2
  go_ret
  exact ⟨_, rfl, hz, HB1.out⟩

theorem draw_StepsSpread (v : Value) (xs : List Int) (w : World) (h : Sb w v xs) (hs : xs.length ≤ 1048576) :
    Calls Try.prog 28 #[v] w fun e w' => ∃ z y m : Int, e = .returned (.tuple #[.int .i64 z, .int .i64 y, .int .i64 m]) ∧ m ≤ 40 ∧ Below w.heap.size w w' := by
  have HC := Lib.hid (Cu.start h hs)
  obtain ⟨a, cap, rfl⟩ := h.len
  have HB := Lib.hid (alloc_below w (.cells #[.slice a xs.length cap, .int .i64 0, .int .u64 0] 53))
  clear h
  go_enter Try.func28, Try.ntmps28
  go_wp2_with fail
  refine (base_any w.heap.size _ xs _ _ HC.out (by omega)).mono ?_
  rintro e w1 ⟨y, rfl, hc, hg⟩
  have C1 := Lib.hid hc
  have HB1 := Lib.hid (HB.out.trans (grown_below hg (by simp) (Nat.le_refl _)))
  clear hc hg
  go_wp2_with fail
  refine (pick_any w.heap.size _ xs _ 3 _ C1.out (by omega) (by omega) (by omega)).mono ?_
  rintro e w2 ⟨x, rfl, x0, x1, hc, hg⟩
  have C2 := Lib.hid hc
  have HB2 := Lib.hid (HB1.out.trans (grown_below hg HB1.out.size (Nat.le_refl _)))
  have hx : x ≤ 3 := by omega
  clear hc hg x1
  by_cases hy : y = 2
  · subst hy
    go_wp2_with fail
    refine (pick_any w.heap.size _ xs _ 8 _ C2.out (by omega) (by omega) (by omega)).mono ?_
    rintro e w3 ⟨x', rfl, y0, y1, hc, hg⟩
    have C3 := Lib.hid hc
    have HB3 := Lib.hid (HB2.out.trans (grown_below hg HB2.out.size (Nat.le_refl _)))
    have hx' : x' ≤ 8 := by omega
    clear hc hg y1
    go_wp2_with fail
    refine (one_any w.heap.size _ xs _ 10 _ C3.out (by omega) (by omega) (by omega)).mono ?_
    rintro e w4 ⟨q, rfl, hc, hg⟩
    have C4 := Lib.hid hc
    have HB4 := Lib.hid (HB3.out.trans (grown_below hg HB3.out.size (Nat.le_refl _)))
    clear hc hg
    cases q
    · go_wp2_with fail
      refine (times_any w.heap.size _ xs _ _ C4.out (by omega)).mono ?_
      rintro e w5 ⟨m, rfl, hg⟩
      have HB5 := Lib.hid (HB4.out.trans (grown_below hg HB4.out.size (Nat.le_refl _)))
      clear hg
      go_wp2_with fail
      refine (l1Least_i m 40 _).mono ?_
      rintro e w6 ⟨rfl, rfl⟩
      go_wp2
      go_ret3
      exact ⟨_, _, _, rfl, by omega, HB5.out⟩
    · go_wp2_with fail
      refine (among_at w.heap.size _ xs _ [0, 14, 15] _ C4.out (by omega) (by simp) (by simp) rfl rfl rfl).mono ?_
      rintro e w7 ⟨z, rfl, hc, hg⟩
      have C7 := Lib.hid hc
      have HB7 := Lib.hid (HB4.out.trans (grown_below hg HB4.out.size (Nat.le_refl _)))
      clear hc hg
      go_wp2_with fail
      refine (times_any w.heap.size _ xs _ _ C7.out (by omega)).mono ?_
      rintro e w5 ⟨m, rfl, hg⟩
      have HB5 := Lib.hid (HB7.out.trans (grown_below hg HB7.out.size (Nat.le_refl _)))
      clear hg
      go_wp2_with fail
      refine (l1Least_i m 40 _).mono ?_
      rintro e w6 ⟨rfl, rfl⟩
      go_wp2
      go_ret3
      exact ⟨_, _, _, rfl, by omega, HB5.out⟩
  · have hy2 : (y == 2) = false := beq_no hy
    go_wp2_with fail
    refine (one_any w.heap.size _ xs _ 10 _ C2.out (by omega) (by omega) (by omega)).mono ?_
    rintro e w4 ⟨q, rfl, hc, hg⟩
    have C4 := Lib.hid hc
    have HB4 := Lib.hid (HB2.out.trans (grown_below hg HB2.out.size (Nat.le_refl _)))
    clear hc hg
    cases q
    · go_wp2_with fail
      refine (times_any w.heap.size _ xs _ _ C4.out (by omega)).mono ?_
      rintro e w5 ⟨m, rfl, hg⟩
      have HB5 := Lib.hid (HB4.out.trans (grown_below hg HB4.out.size (Nat.le_refl _)))
      clear hg
      go_wp2_with fail
      refine (l1Least_i m 40 _).mono ?_
      rintro e w6 ⟨rfl, rfl⟩
      go_wp2
      go_ret3
      exact ⟨_, _, _, rfl, by omega, HB5.out⟩
    · go_wp2_with fail
      refine (among_at w.heap.size _ xs _ [0, 14, 15] _ C4.out (by omega) (by simp) (by simp) rfl rfl rfl).mono ?_
      rintro e w7 ⟨z, rfl, hc, hg⟩
      have C7 := Lib.hid hc
      have HB7 := Lib.hid (HB4.out.trans (grown_below hg HB4.out.size (Nat.le_refl _)))
      clear hc hg
      go_wp2_with fail
      refine (times_any w.heap.size _ xs _ _ C7.out (by omega)).mono ?_
      rintro e w5 ⟨m, rfl, hg⟩
      have HB5 := Lib.hid (HB7.out.trans (grown_below hg HB7.out.size (Nat.le_refl _)))
      clear hg
      go_wp2_with fail
      refine (l1Least_i m 40 _).mono ?_
      rintro e w6 ⟨rfl, rfl⟩
      go_wp2
      go_ret3
      exact ⟨_, _, _, rfl, by omega, HB5.out⟩
end Go.Proofs.Ytnggfcopndcppaa
