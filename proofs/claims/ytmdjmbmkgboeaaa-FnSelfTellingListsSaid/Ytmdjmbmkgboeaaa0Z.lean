/-
  Lists that the laws of said lists draw.
-/
import Derived.Test.Ytmdjmbmkgboeaaa0B
import Derived.Test.Ytmdjmbmkgboeaaa9N
import Derived.Test.Ytmdjmbmkgboeaaa9O
import Derived.Test.Ytmdjmbmkgboeaaa9K
namespace Go.Proofs.Ytmdjmbmkgboeaaa
open Go.RowKit
set_option linter.unusedVariables false
set_option linter.unusedSimpArgs false
set_option maxRecDepth 100000

theorem grown_own {w a c : World} {row : Option Nat} {r : Option Nat} (h : w.grownBy a row) (hg : a.grownBy c r) (hr : ∀ k, r = some k → w.heap.size ≤ k) : w.grownBy c row :=
  ⟨hg.os.trans h.os, hg.tape.trans h.tape, hg.output.trans h.output, Nat.le_trans h.size hg.size, fun k hk hne => (hg.block k (Nat.lt_of_lt_of_le hk h.size) (fun e => by have := hr k e.symm; omega)).trans (h.block k hk hne)⟩
theorem Cu.grown {w w' : World} {g K : Nat} {v : Value} {xs : List Int} {r : Option Nat} (h : Cu w g v xs K) (hg : w.grownBy w' r) (hr : ∀ k, r = some k → g < k) : Cu w' g v xs K :=
  h.keep ((Below.refl _ _).grown hg (Nat.succ_le_of_lt h.lt) (fun k e => hr k e))

/-- What said has drawn so far: a list of its own, the cursor, all else as it was. -/
structure Sd (w wr : World) (g : Nat) (cv : Value) (xs : List Int) (K : Nat) (o : Value) (ls : List Int) : Prop where
  row : Rd wr w.heap.size o ls
  cur : Cu wr g cv xs K
  gr : w.grownBy wr (some g)
  lt : g < w.heap.size
theorem Sd.far {w wr : World} {g : Nat} {cv : Value} {xs : List Int} {K : Nat} {o : Value} {ls : List Int} (h : Sd w wr g cv xs K o ls) : o.ownBlock = none ∨ o.ownBlock ≠ some g := by
  cases e : o.ownBlock with
  | none => exact .inl rfl
  | some k =>
    have := (h.row.lt k e).1
    have := h.lt
    exact .inr (fun c => by simp at c; omega)
theorem Sd.pick {w wr w2 : World} {g : Nat} {cv : Value} {xs : List Int} {K K2 : Nat} {o : Value} {ls : List Int} (h : Sd w wr g cv xs K o ls) (hc : Cu w2 g cv xs K2) (hg : wr.grownBy w2 (some g)) : Sd w w2 g cv xs K2 o ls :=
  ⟨h.row.grown hg h.far, hc, grown_trans h.gr hg, h.lt⟩
theorem Sd.append {w wr w2 : World} {g : Nat} {cv : Value} {xs : List Int} {K : Nat} {o o2 : Value} {ls l2 : List Int} (h : Sd w wr g cv xs K o ls) (hr : Rd w2 w.heap.size o2 l2) (hg : wr.grownBy w2 o.ownBlock) : Sd w w2 g cv xs K o2 l2 :=
  ⟨hr, h.cur.grown hg (fun k e => by have := (h.row.lt k e).1; have := h.lt; omega), grown_own h.gr hg (fun k e => (h.row.lt k e).1), h.lt⟩
theorem Sd.alloc {w wr : World} {g : Nat} {cv : Value} {xs : List Int} {K : Nat} {o : Value} {ls : List Int} (h : Sd w wr g cv xs K o ls) (q : Obj) : Sd w (wr.alloc q) g cv xs K o ls :=
  ⟨h.row.alloc q, h.cur.alloc q, grown_trans h.gr (grown_alloc wr q _), h.lt⟩
theorem Sd.mono {w wr : World} {g : Nat} {cv : Value} {xs : List Int} {K K2 : Nat} {o : Value} {ls : List Int} (h : Sd w wr g cv xs K o ls) (hK : K ≤ K2) : Sd w wr g cv xs K2 o ls := ⟨h.row, h.cur.mono hK, h.gr, h.lt⟩
theorem Sd.size {w wr : World} {g : Nat} {cv : Value} {xs : List Int} {K : Nat} {o : Value} {ls : List Int} (h : Sd w wr g cv xs K o ls) : w.heap.size ≤ wr.heap.size := h.gr.size

def lenV : Value → Nat
  | .slice _ n _ => n
  | _ => 0

set_option maxHeartbeats 1000000 in
theorem said_any (g : Nat) (v : Value) (xs : List Int) (K : Nat) (w : World) (h : Cu w g v xs K) (hK : K ≤ 1000) :
    Calls Try.prog 54 #[.pointer (some ⟨g, 0, none⟩)] w fun e w' => ∃ u ls, e = .returned u ∧ ls.length ≤ 500 ∧ Sd w w' g v xs (K + 2000) u ls := by
  have HP := Lib.hid (fun w' K' n (h : Cu w' g v xs K') (hK' : K' ≤ 5000) (h0 : 0 ≤ n) (h1 : n ≤ 100) => pick_any g v xs K' n w' h (by omega) h0 (by omega))
  have HAm := Lib.hid (fun w' K' ys (h : Cu w' g v xs K') (hK' : K' ≤ 5000) (h1 : 1 ≤ ys.length) (h2 : ys.length ≤ 1000) => among_lit g v xs K' ys w' h (by omega) h1 h2)
  have HS0 := Lib.hid (show Sd w w g v xs K (.slice none 0 0) [] from ⟨Rd.nil _ _, h, World.grownBy.refl _ _, h.lt⟩)
  have HK := Lib.hid hK
  clear h
  go_enter Try.func54, Try.ntmps54
  go_wp2_with (go_at_call 64; refine (HP.out _ _ 9 HS0.out.cur (by omega) (by omega) (by omega)).mono ?_; rintro e w1 ⟨z, rfl, z0, z1, hc, hg⟩; have HS1 := Lib.hid (HS0.out.pick hc hg); clear hc hg)
  go_loopw [3, 4] (fun o i wr => ∃ (k : Nat) (ls : List Int), ls.length + k ≤ 8 ∧ i = .int .i64 (k : Int) ∧ Sd w wr g v xs (K + 10 + 2 * ls.length) o ls) (fun _ i _ => (intOf i).toNat)
  case atStart => exact ⟨z.toNat, [], by simp; omega, by rw [show ((z.toNat : Nat) : Int) = z by omega], HS1.out.mono (by omega)⟩
  case round =>
    obtain ⟨k, ls, hkl, rfl, hs⟩ := hrel
    have HS := Lib.hid hs
    clear hs
    by_cases hk : k = 0
    · subst hk
      go_wp2_with fail
      refine (HP.out _ _ 14 HS.out.cur (by omega) (by omega) (by omega)).mono ?_
      rintro e w2 ⟨z2, rfl, y0, y1, hc, hg⟩
      have HS2 := Lib.hid (HS.out.pick hc hg)
      clear hc hg
      by_cases c0 : z2 = 0
      · subst c0
        clear y0 y1
        go_wp2_with (first
          | (go_at_call 63; refine (HAm.out _ _ [0, 10, -1, 4611686018427387904] HS2.out.cur (by omega) (by simp) (by simp)).mono ?_; rintro e w3 ⟨y, rfl, hc, hg⟩; have HS3 := Lib.hid (HS2.out.pick hc hg); clear hc hg)
          | (at_builtin; refine wpList_appR rfl _ _ rfl w.heap.size w.heap.size _ _ ls [y] rfl rfl (HS3.out.row.alloc _) (Rd.litB _ _ _ HS3.out.size) (by simp; omega) (by have := HS3.out.size; simp; omega) ?_; intro v1 w4 hr4 hg4 hb4; have HS4 := Lib.hid ((HS3.out.alloc _).append hr4 hg4); clear hr4 hg4 hb4))
        go_ret
        exact ⟨_, _, rfl, by simp; omega, HS4.out.mono (by omega)⟩
      by_cases c1 : z2 = 1
      · subst c1
        clear y0 y1
        go_wp2
        go_loopw [3] (fun o wr => ∃ ls : List Int, ls.length ≤ 401 ∧ Sd w wr g v xs (K + 20 + 2 * ls.length) o ls) (fun o _ => 500 - lenV o)
        case atStart => exact ⟨ls, by omega, HS2.out.mono (by omega)⟩
        case round =>
          obtain ⟨l2, hl2, hs⟩ := hrel
          have HS5 := Lib.hid hs
          obtain ⟨a5, c5, rfl⟩ := hs.row.sl.len
          obtain ⟨N, hN⟩ : ∃ N, N = l2.length := ⟨_, rfl⟩
          have HN := Lib.hid hN
          rw [← hN] at HS5 hl2 ⊢
          clear hs hN
          go_wp2_with fail
          refine (HP.out _ _ 2 HS5.out.cur (by omega) (by omega) (by omega)).mono ?_
          rintro e w6 ⟨y, rfl, q0, q1, hc, hg⟩
          have HS6 := Lib.hid (HS5.out.pick hc hg)
          clear hc hg
          by_cases hlt : (N : Int) < 400 + y
          · have hlt2 : N ≤ 400 := by omega
            go_wp2_with (at_builtin; refine wpList_appR rfl _ _ rfl w.heap.size w.heap.size _ _ l2 [1 + (N : Int) % 2] rfl rfl (HS6.out.row.alloc _) (by have h5 := Rd.litB w6 w.heap.size (1 + (N : Int) % 2) HS6.out.size; exact h5) (by have := HN.out; simp; omega) (by have := HS6.out.size; simp; omega) ?_; intro v1 w7 hr7 hg7 hb7; have HS7 := Lib.hid ((HS6.out.alloc _).append hr7 hg7); clear hr7 hg7 hb7)
            go_roundw
            case rel => exact ⟨_, by have := HN.out; simp; omega, HS7.out.mono (by have := HN.out; simp; omega)⟩
            case measure =>
              obtain ⟨a8, c8, e8⟩ := HS7.out.row.sl.len
              have := HN.out
              rw [e8]
              simp [lenV]
              omega
          · go_wp2
            go_ret
            exact ⟨_, _, rfl, by have := HN.out; omega, HS6.out.mono (by omega)⟩
      by_cases c2 : z2 = 2
      · subst c2
        clear y0 y1
        go_wp2
        go_ret
        exact ⟨_, [1, 1, 1, 1, 1, 1, 1, 1, 1, 1], rfl, by simp, ⟨(rd_consts w2 [1, 1, 1, 1, 1, 1, 1, 1, 1, 1] (by simp)).mono HS2.out.size, ((HS2.out.alloc _).cur).mono (by omega), (HS2.out.alloc _).gr, HS2.out.lt⟩⟩
      · go_wp2
        go_ret
        exact ⟨_, _, rfl, by omega, HS2.out.mono (by omega)⟩
    · have hk0 : (0 : Int) < (k : Int) := by omega
      go_wp2_with (first
        | (go_at_call 63; refine (HAm.out _ _ [1, 1, 1, 2, 2, 3, 9] HS.out.cur (by omega) (by simp) (by simp)).mono ?_; rintro e w3 ⟨y, rfl, hc, hg⟩; have HS3 := Lib.hid (HS.out.pick hc hg); clear hc hg)
        | (at_builtin; refine wpList_appR rfl _ _ rfl w.heap.size w.heap.size _ _ ls [y] rfl rfl (HS3.out.row.alloc _) (Rd.litB _ _ _ HS3.out.size) (by simp; omega) (by have := HS3.out.size; simp; omega) ?_; intro v1 w4 hr4 hg4 hb4; have HS4 := Lib.hid ((HS3.out.alloc _).append hr4 hg4); clear hr4 hg4 hb4))
      go_roundw
      case rel => exact ⟨k - 1, _, by simp; omega, by go_num, HS4.out.mono (by simp; omega)⟩
      case measure => simp [intOf]; omega

theorem Sd.below {w wr : World} {g : Nat} {cv : Value} {xs : List Int} {K : Nat} {o : Value} {ls : List Int} {B : Nat} (h : Sd w wr g cv xs K o ls) (hB : B ≤ w.heap.size) (hg : B ≤ g) : Below B w wr := grown_below h.gr hB hg

theorem draw_SayWord (v : Value) (xs : List Int) (w : World) (h : Sb w v xs) (hs : xs.length ≤ 1048576) :
    Calls Try.prog 8 #[v] w fun e w' => ∃ u ls, e = .returned u ∧ ls.length ≤ 500 ∧ Rd w' w.heap.size u ls ∧ Below w.heap.size w w' := by
  have HC := Lib.hid (Cu.start h hs)
  obtain ⟨a, cap, rfl⟩ := h.len
  have HB := Lib.hid (alloc_below w (.cells #[.slice a xs.length cap, .int .i64 0, .int .u64 0] 60))
  clear h
  go_enter Try.func8, Try.ntmps8
  go_wp2_with (go_at_call 54; refine (said_any w.heap.size _ xs 0 _ HC.out (by omega)).mono ?_; rintro e w1 ⟨u, ls, rfl, hl, hd⟩; have HD := Lib.hid hd; have HL := Lib.hid hl; clear hd hl)
  go_ret
  exact ⟨_, _, rfl, HL.out, HD.out.row.mono (by simp), HB.out.trans (HD.out.below (by simp) (Nat.le_refl _))⟩

theorem draw_UnsayWord (v : Value) (xs : List Int) (w : World) (h : Sb w v xs) (hs : xs.length ≤ 1048576) :
    Calls Try.prog 13 #[v] w fun e w' => ∃ u ls, e = .returned u ∧ ls.length ≤ 1000 ∧ Rd w' w.heap.size u ls ∧ Below w.heap.size w w' := by
  have HC := Lib.hid (Cu.start h hs)
  obtain ⟨a, cap, rfl⟩ := h.len
  have HB := Lib.hid (alloc_below w (.cells #[.slice a xs.length cap, .int .i64 0, .int .u64 0] 60))
  clear h
  go_enter Try.func13, Try.ntmps13
  go_wp2_with fail
  refine (said_any w.heap.size _ xs 0 _ HC.out (by omega)).mono ?_
  rintro e w1 ⟨u, ls, rfl, hl, hd⟩
  have HD := Lib.hid hd
  have HL := Lib.hid hl
  have HB1 := Lib.hid (HB.out.trans (HD.out.below (by simp) (Nat.le_refl _)))
  have HR1 := Lib.hid (show Rd w1 w.heap.size u ls from HD.out.row.mono (by simp))
  have HG := Lib.hid (teGood_any u ls w.heap.size w1 HR1.out (by omega))
  obtain ⟨a1, n1, c1, rfl⟩ : ∃ a n c, u = .slice a n c := by obtain ⟨a, c, e⟩ := HR1.out.sl.len; exact ⟨a, _, c, e⟩
  clear hd hl
  cases hg : gdW ls with
  | false =>
    rw [hg] at HG
    clear hg
    go_wp2_with (go_at_call 57; refine HG.out.mono ?_; rintro e w2 ⟨rfl, rfl⟩)
    go_ret
    exact ⟨_, _, rfl, by have := HL.out; omega, HR1.out, HB1.out⟩
  | true =>
    have h4 : ls.length ≤ 400 := by
      unfold gdW at hg
      simp only [Bool.and_eq_true, decide_eq_true_eq] at hg
      exact hg.1
    rw [hg] at HG
    have HO := Lib.hid (one_any w.heap.size _ xs 2000 3 w1 (HD.out.cur.mono (by omega)) (by omega) (by omega) (by omega))
    clear hg
    go_wp2_with fail
    refine HG.out.mono ?_
    rintro e w2 ⟨rfl, rfl⟩
    go_wp2_with fail
    refine HO.out.mono ?_
    rintro e w3 ⟨q, rfl, hc, hgr⟩
    have HB3 := Lib.hid (HB1.out.trans (grown_below hgr HB1.out.size (Nat.le_refl _)))
    have HR3 := Lib.hid (HR1.out.grown hgr (by have := HD.out.far; exact this))
    clear hc hgr
    cases q
    · have HT := Lib.hid (teSay_any _ ls w3 HR3.out.sl (by omega))
      cases ht : okT ls with
      | false =>
        rw [ht] at HT
        clear ht
        go_wp2_with (go_at_call 58; refine HT.out.mono ?_; rintro e w4 ⟨u4, rfl, hr4, hb4⟩; have HB4 := Lib.hid (Below.step HB3.out HB3.out.size hb4); have HR4 := Lib.hid (HR3.out.keep hb4); clear hr4 hb4)
        go_ret
        exact ⟨_, _, rfl, by omega, HR4.out, HB4.out⟩
      | true =>
        rw [ht] at HT
        have HLt := Lib.hid (show (LT9 ls).length ≤ 1000 by unfold LT9; split <;> simp [sayL, sayF_len]; have := strs_len ls; omega)
        clear ht
        go_wp2_with (go_at_call 58; refine HT.out.mono ?_; rintro e w4 ⟨u4, rfl, hr4, hb4⟩; have HB4 := Lib.hid (Below.step HB3.out HB3.out.size hb4); have HR4 := Lib.hid (hr4.mono HB3.out.size); clear hr4 hb4)
        go_ret
        exact ⟨_, _, rfl, HLt.out, HR4.out, HB4.out⟩
    · go_wp2
      go_ret
      exact ⟨_, _, rfl, by omega, HR3.out, HB3.out⟩

theorem draw_SayRun (v : Value) (xs : List Int) (w : World) (h : Sb w v xs) (hs : xs.length ≤ 1048576) :
    Calls Try.prog 15 #[v] w fun e w' => ∃ u ls z, e = .returned (.tuple #[u, .int .i64 z]) ∧ ls.length ≤ 1000 ∧ Rd w' w.heap.size u ls ∧ Below w.heap.size w w' := by
  have HC := Lib.hid (Cu.start h hs)
  obtain ⟨a, cap, rfl⟩ := h.len
  have HB := Lib.hid (alloc_below w (.cells #[.slice a xs.length cap, .int .i64 0, .int .u64 0] 60))
  clear h
  go_enter Try.func15, Try.ntmps15
  go_wp2_with fail
  refine (one_any w.heap.size _ xs 0 10 _ HC.out (by omega) (by omega) (by omega)).mono ?_
  rintro e w1 ⟨q, rfl, hc, hgr⟩
  have HC1 := Lib.hid hc
  have HB1 := Lib.hid (HB.out.trans (grown_below hgr (by simp) (Nat.le_refl _)))
  clear hc hgr
  cases q
  · go_wp2_with (first
      | (go_at_call 54; refine (said_any w.heap.size _ xs 2 _ HC1.out (by omega)).mono ?_; rintro e w2 ⟨u, ls, rfl, hl, hd⟩; have HD := Lib.hid hd; have HL := Lib.hid hl; clear hd hl)
      | (go_at_call 64; refine (pick_any w.heap.size _ xs 2002 9 _ HD.out.cur (by omega) (by omega) (by omega)).mono ?_; rintro e w3 ⟨z, rfl, z0, z1, hc, hgr⟩; have HD3 := Lib.hid (HD.out.pick hc hgr); clear hc hgr))
    go_ret2
    exact ⟨_, _, _, rfl, by have := HL.out; omega, HD3.out.row.mono HB1.out.size, HB1.out.trans (HD3.out.below HB1.out.size (Nat.le_refl _))⟩
  · go_wp2_with (first
      | (go_at_call 54; refine (said_any w.heap.size _ xs 2 _ HC1.out (by omega)).mono ?_; rintro e w2 ⟨u, ls, rfl, hl, hd⟩; have HD := Lib.hid hd; have HL := Lib.hid hl; clear hd hl)
      | (go_at_call 63; refine (among_lit w.heap.size _ xs 2002 [-1, 30, 31] _ HD.out.cur (by omega) (by simp) (by simp)).mono ?_; rintro e w3 ⟨z, rfl, hc, hgr⟩; have HD3 := Lib.hid (HD.out.pick hc hgr); clear hc hgr))
    go_ret2
    exact ⟨_, _, _, rfl, by have := HL.out; omega, HD3.out.row.mono HB1.out.size, HB1.out.trans (HD3.out.below HB1.out.size (Nat.le_refl _))⟩

end Go.Proofs.Ytmdjmbmkgboeaaa
