/-
  The draws of chapter 5: digits to be added, and sums.
-/
import Derived.Test.Ytnggfcopndcppaa5D
import Derived.Test.YtnggfcopndcppaaTI
namespace Go.Proofs.Ytnggfcopndcppaa
open Go.RowKit
set_option linter.unusedVariables false
set_option linter.unusedSimpArgs false
set_option maxRecDepth 100000

theorem draw_AddReversed (v : Value) (xs : List Int) (w : World) (h : Sb w v xs) (hs : xs.length ≤ 1048576) :
    Calls Try.prog 7 #[v] w fun e w' => ∃ u ls z, e = .returned (.tuple #[u, .int .i64 z]) ∧ ls.length ≤ 41 ∧ Rd w' w.heap.size u ls ∧ Below w.heap.size w w' := by
  have HC := Lib.hid (Cu.start h hs)
  obtain ⟨a, cap, rfl⟩ := h.len
  have HB := Lib.hid (alloc_below w (.cells #[.slice a xs.length cap, .int .i64 0, .int .u64 0] 53))
  clear h
  go_enter Try.func7, Try.ntmps7
  go_wp2_with fail
  refine (drawn_digits w.heap.size _ xs 0 9 _ HC.out (by omega) (by omega) (by omega)).mono ?_
  rintro e w1 ⟨u, ls, z, rfl, hl, hd⟩
  have HD := Lib.hid hd
  have HL := Lib.hid hl
  clear hd hl
  go_wp2
  go_ret2
  exact ⟨_, _, _, rfl, HL.out, HD.out.row.mono (by simp), HB.out.trans (HD.out.below (by simp) (Nat.le_refl _))⟩

set_option maxHeartbeats 2000000 in
theorem added_any (g : Nat) (v : Value) (xs : List Int) (K : Nat) (w : World) (h : Cu w g v xs K) (hK : K ≤ 1000) :
    Calls Try.prog 57 #[.pointer (some ⟨g, 0, none⟩)] w fun e w' => ∃ u ls z, e = .returned (.tuple #[u, .int .i64 z]) ∧ ls.length ≤ 41 ∧ Sd w w' g v xs (K + 210) u ls := by
  have HDD := Lib.hid (drawn_digits g v xs K 7 w h hK (by omega) (by omega))
  clear h
  go_enter Try.func57, Try.ntmps57
  go_wp2_with fail
  refine HDD.out.mono ?_
  rintro e w1 ⟨u, ls, z, rfl, hl, hd⟩
  have HD := Lib.hid hd
  have HL := Lib.hid hl
  have HG := Lib.hid (rvGood_any u ls z w.heap.size w1 hd.row (by omega))
  clear hd hl
  rcases okR_cases z ls with ⟨ho, hdg⟩ | ho
  · have HDG := Lib.hid hdg
    rw [ho] at HG
    have HO := Lib.hid (one_any g v xs (K + 200) 2 w1 HD.out.cur (by omega) (by omega) (by omega))
    clear ho hdg
    go_wp2_with fail
    refine HG.out.mono ?_
    rintro e w2 ⟨rfl, rfl⟩
    go_wp2_with fail
    refine HO.out.mono ?_
    rintro e w3 ⟨q, rfl, hc, hgr⟩
    have HD3 := Lib.hid (HD.out.pick hc hgr)
    clear hc hgr
    cases q
    · go_wp2
      go_ret2
      exact ⟨_, _, _, rfl, HL.out, HD3.out.mono (by omega)⟩
    · have HA := Lib.hid (rvAdd_any u ls z w.heap.size w3 HD3.out.row HDG.out)
      go_wp2_with fail
      refine HA.out.mono ?_
      rintro e w4 ⟨u1, u2, rfl, hr1, hr2, hb⟩
      have HD4 := Lib.hid (HD3.out.made hb (Nat.le_refl _) hr1)
      have HD5 := Lib.hid (show Sd w w4 g v xs (K + 200 + 2) u ls from ⟨HD3.out.row.keep hb, HD4.out.cur, HD4.out.gr, HD4.out.lt⟩)
      obtain ⟨a1, c1, rfl⟩ := hr1.sl.len
      obtain ⟨N, hN⟩ : ∃ N, N = (rvA z ls).length := ⟨_, rfl⟩
      have HN := Lib.hid hN
      rw [← hN] at HD4 ⊢
      clear hr1 hr2 hb hN
      by_cases hle : N ≤ 40
      · have hle2 : (N : Int) ≤ 40 := by omega
        go_wp2
        go_ret2
        exact ⟨_, _, _, rfl, by have := HN.out; omega, HD4.out.mono (by omega)⟩
      · have hle2 : ¬ (N : Int) ≤ 40 := by omega
        go_wp2
        go_ret2
        exact ⟨_, _, _, rfl, HL.out, HD5.out.mono (by omega)⟩
  · rw [ho] at HG
    clear ho
    go_wp2_with fail
    refine HG.out.mono ?_
    rintro e w2 ⟨rfl, rfl⟩
    go_wp2
    go_ret2
    exact ⟨_, _, _, rfl, HL.out, HD.out.mono (by omega)⟩

theorem draw_IsSymmetric (v : Value) (xs : List Int) (w : World) (h : Sb w v xs) (hs : xs.length ≤ 1048576) :
    Calls Try.prog 20 #[v] w fun e w' => ∃ u ls z, e = .returned (.tuple #[u, .int .i64 z]) ∧ ls.length ≤ 41 ∧ Rd w' w.heap.size u ls ∧ Below w.heap.size w w' := by
  have HC := Lib.hid (Cu.start h hs)
  obtain ⟨a, cap, rfl⟩ := h.len
  have HB := Lib.hid (alloc_below w (.cells #[.slice a xs.length cap, .int .i64 0, .int .u64 0] 53))
  clear h
  go_enter Try.func20, Try.ntmps20
  go_wp2_with fail
  refine (added_any w.heap.size _ xs 0 _ HC.out (by omega)).mono ?_
  rintro e w1 ⟨u, ls, z, rfl, hl, hd⟩
  have HD := Lib.hid hd
  have HL := Lib.hid hl
  clear hd hl
  go_wp2
  go_ret2
  exact ⟨_, _, _, rfl, HL.out, HD.out.row.mono (by simp), HB.out.trans (HD.out.below (by simp) (Nat.le_refl _))⟩

end Go.Proofs.Ytnggfcopndcppaa
