/-
  The model's first digits with sums of pairs.
-/
import Derived.Test.YtnggfcopndcppaaNB
import Derived.BigRegion
namespace Go.Proofs.Ytnggfcopndcppaa
open Go.RowKit
set_option linter.unusedVariables false
set_option linter.unusedSimpArgs false
set_option maxRecDepth 100000

/-- The first digits with sums of pairs, by place. -/
def fo (b : Int) (w : Nat) (l : Int) (H : List Int) (q : Nat) : Int :=
  if q + q + 1 = w then H.getD q 0 / 2
  else if q < w - 1 - q then max (if q = 0 then l else 0) (H.getD q 0 - (b - 1))
  else H.getD (w - 1 - q) 0 - max (if w - 1 - q = 0 then l else 0) (H.getD (w - 1 - q) 0 - (b - 1))
def foL (b : Int) (w : Nat) (l : Int) (H : List Int) : List Int := (List.range w).map (fo b w l H)
theorem foL_len (b : Int) (w : Nat) (l : Int) (H : List Int) : (foL b w l H).length = w := by simp [foL]
theorem foL_at (b : Int) (w : Nat) (l : Int) (H : List Int) (j : Nat) (h : j < w) : (foL b w l H)[j]'(by rw [foL_len]; exact h) = fo b w l H j := by simp [foL]

theorem fstH_fo {b : Int} : ∀ (w : Nat) (l : Int) (H : List Int), RH b w H → fstH b w l H = foL b w l H := by
  intro w
  induction w using Nat.strongRecOn with
  | ind w ih =>
    intro l H h
    match w, H, h with
    | 0, H, h => simp [fstH, foL]
    | 1, [], h => have := h.len; simp at this
    | 1, s :: H, h => simp [fstH, foL, fo]
    | w + 2, [], h => have := h.len; simp at this; omega
    | w + 2, s :: H, h =>
      have e : fstH b (w + 2) l (s :: H) = max l (s - (b - 1)) :: (fstH b w 0 H ++ [s - max l (s - (b - 1))]) := rfl
      rw [e, ih w (by omega) 0 H h.tail]
      apply List.ext_getElem
      · simp [foL_len]
      · intro j h1 h2
        rw [foL_len] at h2
        rw [foL_at b (w + 2) l (s :: H) j h2]
        by_cases h0 : j = 0
        · subst h0
          unfold fo
          rw [if_neg (by omega), if_pos (by omega)]; rfl
        · obtain ⟨i, rfl⟩ : ∃ i, j = i + 1 := ⟨j - 1, by omega⟩
          by_cases hi : i < w
          · rw [List.getElem_cons_succ, List.getElem_append_left (by rw [foL_len]; exact hi), foL_at b w 0 H i hi]
            by_cases hm : i + i + 1 = w
            · have L : fo b w 0 H i = H.getD i 0 / 2 := by unfold fo; rw [if_pos hm]
              have R : fo b (w + 2) l (s :: H) (i + 1) = H.getD i 0 / 2 := by unfold fo; rw [if_pos (by omega), List.getD_cons_succ]
              rw [L, R]
            · by_cases hl : i < w - 1 - i
              · have L : fo b w 0 H i = max 0 (H.getD i 0 - (b - 1)) := by unfold fo; rw [if_neg hm, if_pos hl]; simp
                have R : fo b (w + 2) l (s :: H) (i + 1) = max 0 (H.getD i 0 - (b - 1)) := by unfold fo; rw [if_neg (by omega), if_pos (by omega), List.getD_cons_succ, if_neg (by omega)]
                rw [L, R]
              · have e2 : w + 2 - 1 - (i + 1) = (w - 1 - i) + 1 := by omega
                have L : fo b w 0 H i = H.getD (w - 1 - i) 0 - max 0 (H.getD (w - 1 - i) 0 - (b - 1)) := by unfold fo; rw [if_neg hm, if_neg hl]; simp
                have R : fo b (w + 2) l (s :: H) (i + 1) = H.getD (w - 1 - i) 0 - max 0 (H.getD (w - 1 - i) 0 - (b - 1)) := by unfold fo; rw [if_neg (by omega), if_neg (by omega), e2, List.getD_cons_succ, if_neg (by omega)]
                rw [L, R]
          · obtain rfl : i = w := by omega
            rw [List.getElem_cons_succ, List.getElem_append_right (by rw [foL_len]; omega)]
            unfold fo
            have e2 : i + 2 - 1 - (i + 1) = 0 := by omega
            rw [if_neg (by omega), if_neg (by omega), e2]
            simp [foL_len]

/-- The places from either side before i are told. -/
def OutP (b : Int) (w : Nat) (l : Int) (H ys : List Int) (i : Nat) : Prop := ys.length = w ∧ ∀ q, q < w → ys[q]? = some (if min q (w - 1 - q) < i then fo b w l H q else 0)
theorem OutP.zero (b : Int) (w : Nat) (l : Int) (H : List Int) : OutP b w l H (List.replicate w 0) 0 :=
  ⟨by simp, fun q hq => by rw [if_neg (by omega)]; simp [hq]⟩
theorem OutP.done {b : Int} {w : Nat} {l : Int} {H ys : List Int} {i : Nat} (h : OutP b w l H ys i) (hi : w ≤ 2 * i) : ys = foL b w l H := by
  apply List.ext_getElem?
  intro q
  by_cases hq : q < w
  · rw [h.2 q hq, if_pos (by omega), List.getElem?_eq_getElem (by rw [foL_len]; exact hq), foL_at _ _ _ _ _ hq]
  · rw [List.getElem?_eq_none (by rw [h.1]; omega), List.getElem?_eq_none (by rw [foL_len]; omega)]
theorem OutP.mid {b : Int} {w : Nat} {l : Int} {H ys : List Int} {i : Nat} {x : Int} (h : OutP b w l H ys i) (hi : i + i + 1 = w) (hx : x = fo b w l H i) : OutP b w l H (ys.set i x) (i + 1) := by
  refine ⟨by rw [List.length_set, h.1], fun q hq => ?_⟩
  rw [List.getElem?_set]
  by_cases e : i = q
  · subst e; rw [if_pos rfl, if_pos (by rw [h.1]; exact hq), if_pos (by omega), hx]
  · rw [if_neg e, h.2 q hq]
    by_cases hlt : min q (w - 1 - q) < i
    · rw [if_pos hlt, if_pos (by omega)]
    · rw [if_neg hlt, if_neg (by omega)]
theorem OutP.two {b : Int} {w : Nat} {l : Int} {H ys : List Int} {i j : Nat} {x y : Int} (h : OutP b w l H ys i) (hij : i + j + 1 = w) (hlt : i < j) (hx : x = fo b w l H i) (hy : y = fo b w l H j) : OutP b w l H ((ys.set i x).set j y) (i + 1) := by
  refine ⟨by rw [List.length_set, List.length_set, h.1], fun q hq => ?_⟩
  rw [List.getElem?_set]
  by_cases e : j = q
  · subst e; rw [if_pos rfl, if_pos (by rw [List.length_set, h.1]; exact hq), if_pos (by omega), hy]
  · rw [if_neg e, List.getElem?_set]
    by_cases e2 : i = q
    · subst e2; rw [if_pos rfl, if_pos (by rw [h.1]; exact hq), if_pos (by omega), hx]
    · rw [if_neg e2, h.2 q hq]
      by_cases hl : min q (w - 1 - q) < i
      · rw [if_pos hl, if_pos (by omega)]
      · rw [if_neg hl, if_neg (by omega)]

theorem first_drew {a b : World} {row : Option Nat} (h : a.grownBy b row) : a.grownBy b.drew row := grown_drew h

theorem rvFirst_any (g c : Nat) (b : Int) (W : Nat) (H : List Int) (B : Nat) (w : World) (h : Rd w B (.slice (some ⟨g, 0, none⟩) W c) (fl W H)) (hH : RH b W H) (hW : 1 ≤ W) (hW' : W ≤ 12) (hb : 2 ≤ b) (hb' : b ≤ 16) :
    Calls Try.prog 87 #[.slice (some ⟨g, 0, none⟩) W c, .int .i64 b] w fun e w' => ∃ g2, e = .returned (.slice (some ⟨g2, 0, none⟩) W W) ∧ Rd w' w.heap.size (.slice (some ⟨g2, 0, none⟩) W W) (fstH b W 1 H) ∧ Below w.heap.size w w' := by
  have HS := Lib.hid h
  have hlen := hH.len
  have HA := Lib.hid hH.all
  have HF := Lib.hid (fstH_fo W 1 H hH)
  obtain ⟨K, hK⟩ : ∃ K, K = (W + 1) / 2 := ⟨_, rfl⟩
  have hK1 : 2 * K ≤ W + 1 := by omega
  have hK2 : W ≤ 2 * K := by omega
  have hlen2 : H.length = K := by omega
  have hW2 : (((W : Int) + 1) / 2) = (K : Int) := by omega
  clear h hlen hK
  go_enter Try.func87, Try.ntmps87
  go_wp2_with (at_make; go_loud (refine wpList_mkR rfl _ _ rfl .i64 .i64 _ _ W rfl rfl rfl rfl (by omega) ?_; intro w1 hr1 hg1 hb1; have HR1 := Lib.hid hr1; have HB1 := Lib.hid hb1; have HZ1 := Lib.hid hg1; clear hr1 hg1 hb1))
  go_loopw [7] (fun x wr => ∃ (i : Nat) (ys : List Int), x = .int .i64 (i : Int) ∧ i ≤ K ∧ OutP b W 1 H ys i ∧ Rd wr w.heap.size (.slice (some ⟨w.heap.size, 0, none⟩) W W) ys ∧ Below w.heap.size w wr) (fun x _ => (12 - intOf x).toNat)
  case atStart => exact ⟨0, _, rfl, by omega, OutP.zero _ _ _ _, HR1.out, HB1.out⟩
  case round =>
    obtain ⟨i, ys, rfl, hi, hO, hr, hbl⟩ := hrel
    have HO := Lib.hid hO
    have HR := Lib.hid hr
    have HB := Lib.hid hbl
    clear hO hr hbl
    by_cases hlt : i < K
    · have hih : i < H.length := by omega
      have hS := HS.out.keep HB.out
      have hcs := hS.at.2.2.2.2.1 i (by rw [fl_len]; omega)
      obtain ⟨s, hs⟩ : ∃ s, s = H[i] := ⟨_, rfl⟩
      have hgd : H.getD i 0 = s := by rw [List.getD_eq_getElem?_getD, List.getElem?_eq_getElem hih, hs]; rfl
      rw [fl_at, show min i (W - 1 - i) = i by omega, hgd] at hcs
      obtain ⟨s0, s1⟩ := HA.out s (by rw [hs]; exact List.getElem_mem hih)
      have HGD := Lib.hid hgd
      have hgB := hS.at.2.1
      have hyl : i < ys.length := by rw [HO.out.1]; omega
      have hco := HR.out.at.2.2.2.2.1 i hyl
      have hfo := HR.out.at.2.2.2.2.2 i
      clear hs hgd hS
      by_cases hm : 2 * i + 1 = W
      · have hbe : ((i : Int) == (W : Int) - 1 - (i : Int)) = true := beq_yes (by omega)
        have HM := Lib.hid (show s / 2 = fo b W 1 H i by unfold fo; rw [if_pos (by omega), HGD.out])
        have HMW := Lib.hid hm
        clear hm
        go_wp2
        go_roundw
        case rel =>
          have h2 := HR.out.set i (s / 2)
          exact ⟨i + 1, _, by go_num, by omega, HO.out.mid (by have := HMW.out; omega) HM.out, h2.1, HB.out.trans (grown_below h2.2 HB.out.size (Nat.le_refl _))⟩
        case measure => simp [intOf]; omega
      · obtain ⟨j, hj⟩ : ∃ j, i + j + 1 = W := ⟨W - 1 - i, by omega⟩
        have hij : i < j := by omega
        have hbe : ((i : Int) == (W : Int) - 1 - (i : Int)) = false := beq_no (by omega)
        have hjj : (W : Int) - 1 - (i : Int) = (j : Int) := by omega
        have hyj : j < ys.length := by rw [HO.out.1]; omega
        obtain ⟨z, hz⟩ : ∃ z, wr.cell? ⟨w.heap.size, j, none⟩ = some (.int .i64 z) := ⟨_, HR.out.at.2.2.2.2.1 j hyj⟩
        have hfj := HR.out.at.2.2.2.2.2 j
        have HJ := Lib.hid hj
        obtain ⟨l, hl⟩ : ∃ l : Int, l = if i = 0 then 1 else 0 := ⟨_, rfl⟩
        obtain ⟨t, ht⟩ : ∃ t, t = max l (s - b + 1) := ⟨_, rfl⟩
        have l0 : 0 ≤ l := by rw [hl]; split <;> omega
        have l1 : l ≤ 1 := by rw [hl]; split <;> omega
        have t0 : 0 ≤ t := by omega
        have t1 : t ≤ 20 := by omega
        have HX := Lib.hid (show t = fo b W 1 H i by unfold fo; rw [if_neg (by omega), if_pos (by omega), HGD.out, ht, hl]; congr 1; omega)
        have HY := Lib.hid (show s - t = fo b W 1 H j by unfold fo; rw [if_neg (by omega), if_neg (by omega), show W - 1 - j = i by omega, HGD.out, ht, hl]; congr 2; omega)
        have HT := Lib.hid ht
        have hS2 := HS.out.keep HB.out
        have hR2 := HR.out.set i t
        have hS3 := hS2.grown hR2.2 (.inr (by have := HS.out.at.2.2.1; simp [Value.ownBlock]; omega))
        have hcs3 := hS3.at.2.2.2.2.1 i (by rw [fl_len]; omega)
        rw [fl_at, show min i (W - 1 - i) = i by omega, HGD.out] at hcs3
        have hc2 := hR2.1.at.2.2.2.2.1 i (by rw [List.length_set]; exact hyl)
        rw [List.getElem_set_self] at hc2
        have hc3 := (hcs3 : (wr.setCell ⟨w.heap.size, i, none⟩ (.int .i64 t)).cell? ⟨g, i, none⟩ = some (.int .i64 s))
        clear hj ht hm hS2 hR2 hS3 hcs3
        by_cases hz0 : i = 0
        · subst hz0
          have hl1 : l = 1 := hl
          subst hl1
          obtain rfl : j = W - 1 := by have := HJ.out; omega
          clear hl hjj
          go_wp2_with (go_at_call 88; go_loud (refine (l1Most_i _ _ _).mono ?_; rw [← HT.out]; rintro e w2 ⟨rfl, rfl⟩))
          go_region
          go_wp2
          go_roundw
          case rel =>
            have h2 := HR.out.set 0 t
            have h3 := h2.1.set (W - 1) (s - t)
            exact ⟨1, _, rfl, by omega, HO.out.two HJ.out hij HX.out HY.out, h3.1, HB.out.trans ((grown_below h2.2 HB.out.size (Nat.le_refl _)).trans (grown_below (first_drew h3.2) (by simp; exact HB.out.size) (Nat.le_refl _)))⟩
          case measure => simp [intOf]
        · have hl0 : l = 0 := by rw [hl, if_neg hz0]
          subst hl0
          have hbe0 : ((i : Int) == 0) = false := beq_no (by omega)
          clear hl
          go_wp2_with (go_at_call 88; go_loud (refine (l1Most_i _ _ _).mono ?_; rw [← HT.out]; rintro e w2 ⟨rfl, rfl⟩))
          go_region
          go_wp2
          go_roundw
          case rel =>
            have h2 := HR.out.set i t
            have h3 := h2.1.set j (s - t)
            exact ⟨i + 1, _, by go_num, by omega, HO.out.two HJ.out hij HX.out HY.out, h3.1, HB.out.trans ((grown_below h2.2 HB.out.size (Nat.le_refl _)).trans (grown_below (first_drew h3.2) (by simp; exact HB.out.size) (Nat.le_refl _)))⟩
          case measure => simp [intOf]; omega
    · have hD := Lib.hid (HO.out.done (by omega))
      go_wp2
      go_ret
      exact ⟨w.heap.size, rfl, by rw [HF.out, ← hD.out]; exact HR.out, HB.out⟩

end Go.Proofs.Ytnggfcopndcppaa
