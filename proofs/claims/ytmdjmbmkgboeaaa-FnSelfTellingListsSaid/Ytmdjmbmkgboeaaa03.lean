/-
  Lists that the law of self telling lists draws.
-/
import Derived.Test.Ytmdjmbmkgboeaaa02
namespace Go.Proofs.Ytmdjmbmkgboeaaa
open Go.RowKit
set_option linter.unusedVariables false
set_option linter.unusedSimpArgs false
set_option maxRecDepth 100000

theorem draw_SelfTelling (v : Value) (xs : List Int) (w : World) (h : Sb w v xs) (hs : xs.length ≤ 1048576) :
    Calls Try.prog 21 #[v] w fun e w' => ∃ z : Int, e = .returned (.int .i64 z) ∧ Below w.heap.size w w' := by
  have HC := Lib.hid (Cu.start h hs)
  obtain ⟨a, cap, rfl⟩ := h.len
  have HB := Lib.hid (alloc_below w (.cells #[.slice a xs.length cap, .int .i64 0, .int .u64 0] 60))
  clear h
  go_enter Try.func21, Try.ntmps21
  go_wp2_with fail
  refine (one_any w.heap.size _ xs _ 12 _ HC.out (by omega) (by omega) (by omega)).mono ?_
  rintro e w2 ⟨q, rfl, hc, hg⟩
  have C2 := Lib.hid hc
  have HB2 := Lib.hid (HB.out.trans (grown_below hg (by simp) (Nat.le_refl _)))
  clear hc hg
  cases q
  · go_wp2_with (go_at_call 64; refine (pick_any w.heap.size _ xs _ 8 _ C2.out (by omega) (by omega) (by omega)).mono ?_; rintro e w3 ⟨y, rfl, y0, y1, hc, hg⟩; have HB3 := Lib.hid (HB2.out.trans (grown_below hg HB2.out.size (Nat.le_refl _))); clear hc hg)
    go_ret
    exact ⟨_, rfl, HB3.out⟩
  · go_wp2_with (go_at_call 63; refine (among_lit w.heap.size _ xs _ [0, 10, 11] _ C2.out (by omega) (by simp) (by simp)).mono ?_; rintro e w3 ⟨y, rfl, hc, hg⟩; have HB3 := Lib.hid (HB2.out.trans (grown_below hg HB2.out.size (Nat.le_refl _))); clear hc hg)
    go_ret
    exact ⟨_, rfl, HB3.out⟩

/-- What is chosen is one of the list. -/
theorem among_mem (g : Nat) (v : Value) (xs : List Int) (K : Nat) (ys : List Int) (w : World) (h : Cu w g v xs K) (hK : K ≤ 1000000) (h1 : 1 ≤ ys.length) (h2 : ys.length ≤ 1000) :
    Calls Try.prog 63 #[.pointer (some ⟨g, 0, none⟩), .slice (some ⟨w.heap.size, 0, none⟩) ys.length ys.length] (w.alloc (.cells (ys.map (Value.int .i64)).toArray 3)) fun e w' => ∃ x : Int, e = .returned (.int .i64 x) ∧ x ∈ ys ∧ Cu w' g v xs (K + 2) ∧ w.grownBy w' (some g) := by
  have HG := Lib.hid (grown_alloc w (.cells (ys.map (Value.int .i64)).toArray 3) (some g))
  have HY := Lib.hid (rd_consts w ys h2)
  have HB := Lib.hid (show ¬ w.heap.size = g from fun e => by have := h.lt; omega)
  have HC := Lib.hid (h.alloc (.cells (ys.map (Value.int .i64)).toArray 3))
  obtain ⟨b, hb⟩ : ∃ b, b = w.heap.size := ⟨_, rfl⟩
  obtain ⟨w1, hw1⟩ : ∃ w1, w1 = w.alloc (.cells (ys.map (Value.int .i64)).toArray 3) := ⟨_, rfl⟩
  rw [← hb] at HY HB
  rw [← hw1] at HG HY HC
  rw [← hb, ← hw1]
  have HP := Lib.hid (pick_any g v xs K (ys.length : Int) w1 HC.out hK (by omega) (by omega))
  obtain ⟨L, hL⟩ : ∃ L, L = ys.length := ⟨_, rfl⟩
  rw [← hL] at HP HY h1 h2 ⊢
  have HLL := Lib.hid hL
  clear h hL hb hw1
  go_enter Try.func63, Try.ntmps63
  go_wp2_with fail
  refine HP.out.mono ?_
  rintro e w2 ⟨x, rfl, x0, x1, hc, hg⟩
  have C1 := Lib.hid hc
  have G1 := Lib.hid (grown_trans HG.out hg)
  obtain ⟨X, rfl⟩ : ∃ X : Nat, x = (X : Int) := ⟨x.toNat, by omega⟩
  have hX : X < L := by omega
  have hXy : X < ys.length := by rw [← HLL.out]; exact hX
  have hcell : w2.cell? ⟨b, X, none⟩ = some (.int .i64 ys[X]) := by
    have hr : Rd w2 _ (.slice (some ⟨b, 0, none⟩) L L) ys := HY.out.grown hg (.inr (fun e => HB.out (by simpa [Value.ownBlock] using e)))
    exact hr.at.2.2.2.2.1 X hXy
  have HM := Lib.hid (List.getElem_mem hXy)
  obtain ⟨y, hy⟩ : ∃ y, y = ys[X] := ⟨_, rfl⟩
  rw [← hy] at hcell HM
  clear hc hg hy x1 hXy
  go_wp2
  go_ret
  exact ⟨y, rfl, HM.out, C1.out, G1.out⟩

theorem LLi.pick {w w' : World} {B g : Nat} {v : Value} {vs : List Value} {ls : List (List Int)} (h : LLi w B v vs ls) (hB : g < B) (hg : w.grownBy w' (some g)) : LLi w' B v vs ls := by
  refine h.grown hg ?_ (fun i u hu => ?_)
  · cases e : v.ownBlock with
    | none => exact .inl rfl
    | some k => have := (h.row.lt k e).1; exact .inr (fun c => by simp at c; omega)
  · obtain ⟨l, _, hr⟩ := h.rd hu
    cases e : u.ownBlock with
    | none => exact .inl rfl
    | some k => have := (hr.lt k e).1; exact .inr (fun c => by simp at c; omega)

set_option maxHeartbeats 1000000 in
theorem draw_IsSelfTelling (v : Value) (xs : List Int) (w : World) (h : Sb w v xs) (hs : xs.length ≤ 1048576) :
    Calls Try.prog 28 #[v] w fun e w' => ∃ u ls, e = .returned u ∧ ls.length ≤ 100 ∧ Rd w' w.heap.size u ls ∧ Below w.heap.size w w' := by
  have HC := Lib.hid (Cu.start h hs)
  obtain ⟨a, cap, rfl⟩ := h.len
  have HB := Lib.hid (alloc_below w (.cells #[.slice a xs.length cap, .int .i64 0, .int .u64 0] 60))
  clear h
  go_enter Try.func28, Try.ntmps28
  go_wp2_with fail
  refine (one_any w.heap.size _ xs 0 2 _ HC.out (by omega) (by omega) (by omega)).mono ?_
  rintro e w2 ⟨q, rfl, hc, hg⟩
  have HS0 := Lib.hid (show Sd w2 w2 w.heap.size _ xs 2 (.slice none 0 0) [] from ⟨Rd.nil _ _, hc, World.grownBy.refl _ _, hc.lt⟩)
  have HB2 := Lib.hid (HB.out.trans (grown_below hg (by simp) (Nat.le_refl _)))
  have HW2 := Lib.hid (show w.heap.size < w2.heap.size from hc.lt)
  clear hc hg
  cases q
  · have HP := Lib.hid (fun w' K' n (h : Cu w' w.heap.size (.slice a xs.length cap) xs K') (hK' : K' ≤ 5000) (h0 : 0 ≤ n) (h1 : n ≤ 100) => pick_any w.heap.size _ xs K' n w' h (by omega) h0 (by omega))
    go_wp2_with (go_at_call 64; refine (HP.out _ _ 14 HS0.out.cur (by omega) (by omega) (by omega)).mono ?_; rintro e w3 ⟨z, rfl, z0, z1, hc, hg⟩; have HS1 := Lib.hid (HS0.out.pick hc hg); clear hc hg)
    go_loopw [5, 6] (fun o i wr => ∃ (k : Nat) (ls : List Int), ls.length + k ≤ 13 ∧ i = .int .i64 (k : Int) ∧ Sd w2 wr w.heap.size (.slice a xs.length cap) xs (10 + 4 * ls.length) o ls) (fun _ i _ => (intOf i).toNat)
    case atStart => exact ⟨z.toNat, [], by simp; omega, by rw [show ((z.toNat : Nat) : Int) = z by omega], HS1.out.mono (by omega)⟩
    case round =>
      obtain ⟨k, ls, hkl, rfl, hs⟩ := hrel
      have HS := Lib.hid hs
      clear hs
      by_cases hk : k = 0
      · subst hk
        go_wp2
        go_ret
        exact ⟨_, _, rfl, by omega, HS.out.row.mono (by have := HW2.out; omega), HB2.out.trans (HS.out.below (by have := HW2.out; omega) (Nat.le_refl _))⟩
      · have hk0 : (0 : Int) < (k : Int) := by omega
        go_wp2_with fail
        refine (HP.out _ _ 5 HS.out.cur (by omega) (by omega) (by omega)).mono ?_
        rintro e w4 ⟨x, rfl, x0, x1, hc, hg⟩
        have HS4 := Lib.hid (HS.out.pick hc hg)
        clear hc hg
        go_wp2_with fail
        refine (HP.out _ _ 9 HS4.out.cur (by omega) (by omega) (by omega)).mono ?_
        rintro e w5 ⟨y, rfl, y0, y1, hc, hg⟩
        have HS5 := Lib.hid (HS4.out.pick hc hg)
        clear hc hg
        obtain ⟨y', rfl⟩ : ∃ y' : Nat, y = (y' : Int) := ⟨y.toNat, by omega⟩
        have hq8 : Int.tdiv (y' : Int) 8 = ((y' / 8 : Nat) : Int) := by rw [Int.tdiv_eq_ediv_of_nonneg (by omega)]; omega
        have hyb : y' / 8 ≤ 1 := by omega
        go_wp2_with (at_builtin; refine wpList_appR rfl _ _ rfl w2.heap.size w2.heap.size _ _ ls [_] rfl rfl (HS5.out.row.alloc _) (Rd.litB _ _ _ HS5.out.size) (by simp; omega) (by have := HS5.out.size; simp; omega) ?_; intro v1 w6 hr6 hg6 hb6; have HS6 := Lib.hid ((HS5.out.alloc _).append hr6 hg6); clear hr6 hg6 hb6)
        go_roundw
        case rel => exact ⟨k - 1, _, by simp; omega, by go_num, HS6.out.mono (by simp; omega)⟩
        case measure => simp [intOf]; omega
  · go_wp2_with fail
    refine (among_mem w.heap.size _ xs 2 [4, 5, 7] _ HS0.out.cur (by omega) (by simp) (by simp)).mono ?_
    rintro e w3 ⟨y, rfl, hy, hc, hg⟩
    have HC3 := Lib.hid hc
    have HB3 := Lib.hid (HB2.out.trans (grown_below hg HB2.out.size (Nat.le_refl _)))
    obtain ⟨n, rfl⟩ : ∃ n : Nat, y = (n : Int) := ⟨y.toNat, by simp at hy; omega⟩
    have hn : n = 4 ∨ n = 5 ∨ n = 7 := by simp at hy; omega
    have HE := Lib.hid (show mS n n [] = sTab n from (m_selL n).trans (selL_tab n (by omega) (by omega)))
    have hL : (sTab n).length = 1 ∨ (sTab n).length = 2 := by rcases hn with rfl | rfl | rfl <;> simp [sTab]
    have hR : ∀ l ∈ sTab n, l.length = n := fun l hl => (sTab_rows n (by omega) (by omega) l hl).2.1
    have HR := Lib.hid hR
    have HT := Lib.hid (fun w' => teSelf_any n (by omega) (by omega) n [] (.slice none 0 0) 0 w' (Rd.nil _ _) (by simp) (fun x hx => by cases hx) (by rw [HE.out]; omega))
    rw [HE.out] at HT
    clear hc hg hy HE hR
    go_wp2_with fail
    refine (HT.out _).mono ?_
    rintro e w4 ⟨u, vs, rfl, hr, hb⟩
    have HL4 := Lib.hid hr
    have HC4 := Lib.hid (HC3.out.keep (hb.mono (Nat.succ_le_of_lt HC3.out.lt)))
    have HB4 := Lib.hid (Below.step HB3.out HB3.out.size hb)
    have HW3 := Lib.hid (show w.heap.size < w3.heap.size from HC3.out.lt)
    obtain ⟨L, hLL⟩ : ∃ L, (sTab n).length = L := ⟨_, rfl⟩
    obtain ⟨u0, gs, cs, hz1, hu, hz2, hz3⟩ := HL4.out.get 0 (by omega)
    clear hz1 hz2 hz3
    rw [hLL] at hu hL
    subst hu
    have HLL := Lib.hid hLL
    clear hr hb hLL
    go_wp2_with fail
    refine (pick_any w.heap.size _ xs _ (L : Int) _ HC4.out (by omega) (by omega) (by omega)).mono ?_
    rintro e w5 ⟨x, rfl, x0, x1, hc, hg⟩
    have HL5 := Lib.hid (HL4.out.pick HW3.out hg)
    have HB5 := Lib.hid (HB4.out.trans (grown_below hg HB4.out.size (Nat.le_refl _)))
    obtain ⟨X, rfl⟩ : ∃ X : Nat, x = (X : Int) := ⟨x.toNat, by omega⟩
    have hX : X < L := by omega
    obtain ⟨uX, g2, c2, hz4, hu, hcX, hRX⟩ := HL5.out.get X (by rw [HLL.out]; exact hX)
    simp only [Value.slice.injEq, Option.some.injEq, Addr.mk.injEq, and_true, true_and] at hu
    have hu1 := hu.1
    subst hu1
    have HRX := Lib.hid hRX
    have HRl := Lib.hid (HR.out _ (List.getElem_mem (by rw [HLL.out]; exact hX : X < (sTab n).length)))
    obtain ⟨aX, nX, cX, rfl⟩ : ∃ a n c, uX = .slice a n c := by obtain ⟨a, c, e⟩ := hRX.sl.len; exact ⟨a, _, c, e⟩
    clear hc hg hu hRX x1 hz4
    go_wp2
    go_ret
    exact ⟨_, _, rfl, by rw [HRl.out]; omega, HRX.out.mono (by have := HW3.out; omega), HB5.out⟩

end Go.Proofs.Ytmdjmbmkgboeaaa
