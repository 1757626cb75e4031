/-
  The model's lists of sums of pairs (written by wip/tools/gen_nd.py).
-/
import Derived.Test.YtnggfcopndcppaaNC
import Derived.Test.YtnggfcopndcppaaTK
import Derived.Deep.QuietTactic
namespace Go.Proofs.Ytnggfcopndcppaa
open Go.RowKit
set_option linter.unusedVariables false
set_option linter.unusedSimpArgs false
set_option maxRecDepth 100000

/-- The places from either side before t are told. -/
def SP (b : Int) (g : Nat → Int) (w n : Nat) (ys : List Int) (t : Nat) : Prop := ys.length = w ∧ ∀ q, q < w → ys[q]? = some (if min q (w - 1 - q) < t then hs b g n (min q (w - 1 - q)) else 0)
theorem SP.zero (b : Int) (g : Nat → Int) (w n : Nat) : SP b g w n (List.replicate w 0) 0 :=
  ⟨by simp, fun q hq => by rw [if_neg (by omega)]; simp [hq]⟩
theorem SP.done {b : Int} {g : Nat → Int} {w n : Nat} {ys : List Int} {t : Nat} (h : SP b g w n ys t) (ht : w ≤ 2 * t) : ys = ff b g w n := by
  apply List.ext_getElem?
  intro q
  by_cases hq : q < w
  · rw [h.2 q hq, if_pos (by omega), List.getElem?_eq_getElem (by rw [ff_len]; exact hq), ff_at _ _ _ _ _ hq]
  · rw [List.getElem?_eq_none (by rw [h.1]; omega), List.getElem?_eq_none (by rw [ff_len]; omega)]
theorem SP.two {b : Int} {g : Nat → Int} {w n : Nat} {ys : List Int} {i j : Nat} {x : Int} (h : SP b g w n ys j) (hij : i + j + 1 = w) (hlt : j ≤ i) (hx : x = hs b g n j) : SP b g w n ((ys.set i x).set j x) (j + 1) := by
  refine ⟨by rw [List.length_set, List.length_set, h.1], fun q hq => ?_⟩
  rw [List.getElem?_set]
  by_cases e : j = q
  · subst e; rw [if_pos rfl, if_pos (by rw [List.length_set, h.1]; exact hq), if_pos (by omega), hx, show min j (w - 1 - j) = j by omega]
  · rw [if_neg e, List.getElem?_set]
    by_cases e2 : i = q
    · subst e2; rw [if_pos rfl, if_pos (by rw [h.1]; exact hq), if_pos (by omega), hx, show min i (w - 1 - i) = j by omega]
    · rw [if_neg e2, h.2 q hq]
      by_cases hl : min q (w - 1 - q) < j
      · rw [if_pos hl, if_pos (by omega)]
      · rw [if_neg hl, if_neg (by omega)]

theorem okU_mono {b : Int} {g : Nat → Int} {w n j : Nat} (h : okU b g w n j = false) : ∀ k, okU b g w n (j + k) = false
  | 0 => h
  | k + 1 => by rw [← Nat.add_assoc, okU, okU_mono h k, Bool.false_and]
theorem fit_no {b : Int} {g : Nat → Int} {w n j : Nat} {over : Int} (h : okU b g w n j = false) (hj : j ≤ w) : fit b g w over n = false := by
  have := okU_mono h (w - j)
  rw [show j + (w - j) = w by omega] at this
  unfold fit; rw [this, Bool.false_and]
theorem outs_len (b : Int) (g : Nat → Int) (w : Nat) (over : Int) : ∀ k, (outs b g w over k).length ≤ k
  | 0 => Nat.le_refl _
  | k + 1 => by
    have := outs_len b g w over k
    rw [outs]; split <;> simp <;> omega
theorem outs_yes {b : Int} {g : Nat → Int} {w : Nat} {over : Int} {k : Nat} (h : fit b g w over k = true) : outs b g w over (k + 1) = outs b g w over k ++ [ff b g w k] := by rw [outs, if_pos h]
theorem outs_no {b : Int} {g : Nat → Int} {w : Nat} {over : Int} {k : Nat} (h : fit b g w over k = false) : outs b g w over (k + 1) = outs b g w over k := by rw [outs, if_neg (by rw [h]; simp)]

/-- The digits, the last place first. -/
def gF (xs : List Int) (j : Nat) : Int := xs.reverse.getD j 0
theorem gF_at (xs : List Int) (i j : Nat) (h : i + j + 1 = xs.length) : gF xs j = xs[i]'(by omega) := by
  unfold gF
  rw [List.getD_eq_getElem?_getD, List.getElem?_reverse (by omega), show xs.length - 1 - j = i by omega, List.getElem?_eq_getElem (by omega)]; rfl
theorem gF_all {b : Int} {xs : List Int} (hb : 2 ≤ b) (h : ∀ x ∈ xs, 0 ≤ x ∧ x ≤ b - 1) (j : Nat) : 0 ≤ gF xs j ∧ gF xs j ≤ b - 1 := by
  unfold gF
  by_cases hj : j < xs.reverse.length
  · rw [List.getD_eq_getElem?_getD, List.getElem?_eq_getElem hj]
    exact h _ (List.mem_reverse.1 (List.getElem_mem hj))
  · rw [List.getD_eq_getElem?_getD, List.getElem?_eq_none (by omega)]; simp; omega

theorem pow_hf {hf : Nat} (h : hf ≤ 6) : ∃ N : Nat, (2:Int) ^ hf = (N : Int) ∧ N = 2 ^ hf ∧ 1 ≤ N ∧ N ≤ 64 := by
  have hc : hf = 0 ∨ hf = 1 ∨ hf = 2 ∨ hf = 3 ∨ hf = 4 ∨ hf = 5 ∨ hf = 6 := by omega
  rcases hc with rfl | rfl | rfl | rfl | rfl | rfl | rfl <;> exact ⟨_, rfl, rfl, by decide, by decide⟩

theorem okU_in {b : Int} {g : Nat → Int} {w n j i : Nat} (h : okU b g w n j = true) (hi : i < j) (hi2 : i < (w + 1) / 2) : 0 ≤ hs b g n i ∧ hs b g n i ≤ 2 * b - 2 := by
  have := (okU_iff b g w n j).1 h i hi
  unfold okP at this
  rw [if_pos hi2, Bool.and_eq_true, decide_eq_true_eq, decide_eq_true_eq] at this
  exact this
theorem okU_next {b : Int} {g : Nat → Int} {w n j : Nat} (h : okU b g w n j = true) : okU b g w n (j + 1) = okP b g w n j := by rw [okU, h, Bool.true_and]

theorem cc_01 {b : Int} {g : Nat → Int} {w n j : Nat} (hb : 2 ≤ b) (h : okU b g w n j = true) (hj : j ≤ w) (hh : (w + 1) / 2 ≤ j) : 0 ≤ cc b g w n j ∧ cc b g w n j ≤ 1 := by
  refine coA_pos b hb _ 0 (fun s hs' => ?_) (by omega) (by omega)
  have hm := List.mem_of_mem_take hs'
  obtain ⟨q, hq, rfl⟩ := List.getElem_of_mem hm
  rw [ff_len] at hq
  rw [ff_at b g w n q hq]
  exact okU_in h (by omega) (by omega)

theorem below_dN {B : Nat} {a w : World} (h : Below B a w) (n : Nat) : Below B a (w.drewN n) := ⟨h.os, h.tape, h.output, h.size, h.block⟩

set_option maxHeartbeats 1000000 in
theorem rvWays_0 (gg c : Nat) (xs : List Int) (b : Int) (W B : Nat) (w : World) (h : Rd w B (.slice (some ⟨gg, 0, none⟩) xs.length c) xs) (hl : W + 0 = xs.length) (hW : 1 ≤ W) (hW' : W ≤ 12) (hb : 2 ≤ b) (hb' : b ≤ 16) (hx : ∀ x ∈ xs, 0 ≤ x ∧ x ≤ b - 1) :
    Calls Try.prog 85 #[.slice (some ⟨gg, 0, none⟩) xs.length c, .int .i64 (W : Int), .int .i64 b] w fun e w' => ∃ v vs, e = .returned (.tuple #[v, .bool true]) ∧ LLi w' w.heap.size v vs (outs b (gF xs) W 0 (2 ^ ((W + 1) / 2))) ∧ Below w.heap.size w w' := by
  have HG := Lib.hid h.at.2.2.2.2.1
  have hgg := h.at.2.2.1
  have HGA := Lib.hid (gF_all hb hx)
  obtain ⟨L, hL⟩ : ∃ L, L = xs.length := ⟨_, rfl⟩
  have HLL := Lib.hid hL
  rw [← hL]
  have hov : (L : Int) - (W : Int) = 0 := by omega
  obtain ⟨hf, hhf⟩ : ∃ hf, hf = (W + 1) / 2 := ⟨_, rfl⟩
  have HHF := Lib.hid hhf
  rw [← hhf]
  have hf1 : 2 * hf ≤ W + 1 := by omega
  have hf2 : W ≤ 2 * hf := by omega
  have hW2 : (((W : Int) + 1) / 2) = (hf : Int) := by omega
  obtain ⟨N, hN, hN0, hN1, hN2⟩ := pow_hf (show hf ≤ 6 by omega)
  rw [← hN0]
  have HXL := Lib.hid (show W + 0 = xs.length from hl)
  have HX := Lib.hid hx
  clear h hL hhf hN0 hl hx
  go_enter Try.func85, Try.ntmps85
  go_wp2_with (go_at_call 82; refine (l1In_yes _ _ _ _ (by omega) (by omega)).mono ?_; rintro e w1 ⟨rfl, rfl⟩)
  try rw [hW2]
  go_loopw [10, 11] (fun x y wr => ∃ (n : Nat) (v : Value) (vs : List Value), v = x ∧ y = .int .i64 (n : Int) ∧ n ≤ N ∧ LLi wr w.heap.size v vs (outs b (gF xs) W 0 n) ∧ Below w.heap.size w wr) (fun _ y _ => (64 - intOf y).toNat)
  case atStart => exact ⟨0, _, [], rfl, rfl, by omega, LLi.nil _ _, Below.refl _ _⟩
  case round =>
    obtain ⟨n, v, vs, rfl, rfl, hn, hll, hbl⟩ := hrel
    obtain ⟨wo, hwo⟩ : ∃ wo : World, wo = wr := ⟨_, rfl⟩
    rw [← hwo] at hll hbl ⊢
    clear hwo
    have HLI := Lib.hid hll
    have HBO := Lib.hid hbl
    have hszo := HBO.out.size
    have hvl : vs.length ≤ 64 := by rw [hll.len]; have := outs_len b (gF xs) W 0 n; omega
    clear hll hbl
    by_cases hlt : n < N
    · go_wp2_with (at_make; go_loud (refine wpList_mkR rfl _ _ rfl .i64 .i64 _ _ W rfl rfl rfl rfl (by omega) ?_; intro w1 hr1 hg1 hb1; have HR1 := Lib.hid hr1; have HB1 := Lib.hid hb1; clear hr1 hg1 hb1))
      go_loopw [13, 14, 15] (fun x y z wr => ∃ (p : Nat) (cy : Int) (ys : List Int), z = .int .i64 ((p : Int) - 1) ∧ p ≤ W ∧ y = .bool (okU b (gF xs) W n (W - p)) ∧ x = .int .i64 cy ∧ Hid (okU b (gF xs) W n (W - p) = true → cy = cc b (gF xs) W n (W - p) ∧ SP b (gF xs) W n ys (min (W - p) hf)) ∧ Rd wr wo.heap.size (.slice (some ⟨wo.heap.size, 0, none⟩) W W) ys ∧ Below wo.heap.size wo wr) (fun _ _ z _ => (intOf z + 1).toNat)
      case atStart => exact ⟨W, 0, _, rfl, Nat.le_refl _, by rw [Nat.sub_self]; rfl, rfl, Lib.hid (fun _ => by rw [Nat.sub_self]; exact ⟨(cc_zero _ _ _ _).symm, by rw [Nat.zero_min]; exact SP.zero _ _ _ _⟩), HR1.out, HB1.out⟩
      case round =>
        obtain ⟨p, cy, ys, rfl, hp, rfl, rfl, HQ, hr, hbl⟩ := hrel
        have HR := Lib.hid hr
        have HB := Lib.hid hbl
        clear hr hbl
        obtain ⟨q, hq⟩ : ∃ q, q = okU b (gF xs) W n (W - p) := ⟨_, rfl⟩
        have HOK := Lib.hid hq
        rw [← hq]
        cases q with
        | false =>
          have HF := Lib.hid (outs_no (fit_no (over := 0) hq.symm (by omega)))
          clear hq
          by_cases hp0 : p = 0
          · subst hp0
            go_wp2
            go_roundw
            case rel => exact ⟨n + 1, v, vs, rfl, by go_num, by omega, by rw [HF.out]; exact HLI.out.keep HB.out, HBO.out.trans (HB.out.mono hszo)⟩
            case measure => simp [intOf]; omega
          · obtain ⟨i, rfl⟩ : ∃ i, p = i + 1 := ⟨p - 1, by omega⟩
            clear hp0
            go_wp2
            go_roundw
            case rel => exact ⟨n + 1, v, vs, rfl, by go_num, by omega, by rw [HF.out]; exact HLI.out.keep HB.out, HBO.out.trans (HB.out.mono hszo)⟩
            case measure => simp [intOf]; omega
        | true =>
          obtain ⟨hcy, hsp⟩ := HQ.out hq.symm
          by_cases hp0 : p = 0
          · subst hp0
            rw [Nat.sub_zero] at hcy hsp hq
            have HYS := Lib.hid (hsp.done (by omega))
            have HU := Lib.hid hq
            by_cases hc : cy = 0
            · have HF := Lib.hid (outs_yes (show fit b (gF xs) W 0 n = true by unfold fit; rw [← hq, ← hcy, hc]; rfl))
              have hcb : (cy == 0) = true := beq_yes hc
              clear hq hcy hsp hc
              have hszr := HB.out.size
              go_wp2_with (at_builtin; go_loud (refine wpList_appG rfl _ _ 36 24 (.slice none 0 0) 24 Try.underlying36 infoL (by omega) rfl rfl w.heap.size w.heap.size _ _ vs _ rfl rfl ((HLI.out.row.keep HB.out).alloc _) (Rg.lit _ _ _ _ (by omega)) (by simp [Value.oneCell']) (by rw [List.length_singleton]; omega) (by simp; omega) ?_; intro v4 w4 hr4 hg4 hb4; have L4 := Lib.hid ((HLI.out.keep HB.out).snoc (HR.out.mono hszo) (fun i z hz => by obtain ⟨l, _, hl⟩ := HLI.out.rd hz; exact Rd.apart (fun k hk => (hl.lt k hk).2) HR.out) hr4 hg4); have B4 := Lib.hid (((HBO.out.trans (HB.out.mono hszo)).alloc (by omega) _).trans hb4); clear hr4 hg4 hb4))
              go_roundw
              case rel => exact ⟨n + 1, _, _, rfl, by go_num, by omega, by rw [HF.out, ← HYS.out]; exact L4.out, B4.out⟩
              case measure => simp [intOf]; omega
            · have HF := Lib.hid (outs_no (show fit b (gF xs) W 0 n = false by unfold fit; rw [← hcy, decide_eq_false hc, Bool.and_false]))
              have hcb : (cy == 0) = false := beq_no hc
              clear hq hcy hsp hc
              go_wp2
              go_roundw
              case rel => exact ⟨n + 1, v, vs, rfl, by go_num, by omega, by rw [HF.out]; exact HLI.out.keep HB.out, HBO.out.trans (HB.out.mono hszo)⟩
              case measure => simp [intOf]; omega
          · obtain ⟨i, rfl⟩ : ∃ i, p = i + 1 := ⟨p - 1, by omega⟩
            obtain ⟨j, hj⟩ : ∃ j, j = W - (i + 1) := ⟨_, rfl⟩
            rw [← hj] at hcy hsp hq
            have hij : i + j + 1 = W := by omega
            have hW1 : W - i = j + 1 := by omega
            obtain ⟨x, hxx⟩ : ∃ x, x = xs[i]'(by have := HXL.out; omega) := ⟨_, rfl⟩
            have hgx : gF xs j = x := by rw [gF_at xs (i) j (by have := HXL.out; omega), hxx]
            have hcg := Below.keeps_cell (HBO.out.trans (HB.out.mono hszo)) (HG.out (i) (by have := HXL.out; omega))
            rw [← hxx] at hcg
            obtain ⟨x0, x1⟩ := HX.out x (by rw [hxx]; exact List.getElem_mem _)
            have hyl : ys.length = W := hsp.1
            obtain ⟨zi, hci⟩ : ∃ z, wr.cell? ⟨wo.heap.size, i, none⟩ = some (.int .i64 z) := ⟨_, HR.out.at.2.2.2.2.1 i (by omega)⟩
            obtain ⟨zj, hcj⟩ : ∃ z, wr.cell? ⟨wo.heap.size, j, none⟩ = some (.int .i64 z) := ⟨_, HR.out.at.2.2.2.2.1 j (by omega)⟩
            have hfi := HR.out.at.2.2.2.2.2 i
            have hfj := HR.out.at.2.2.2.2.2 j
            have hjj : (W : Int) - 1 - (i : Int) = (j : Int) := by omega
            have HW1 := Lib.hid hW1
            have HIJ := Lib.hid hij
            clear hxx hp0
            by_cases hjh : j < hf
            · have hji : j ≤ i := by omega
              have HK := Lib.hid (show min (i : Int) (j : Int) = (j : Int) by omega)
              have hc01 : 0 ≤ cy ∧ cy ≤ 1 := by rw [hcy, cc_right hb W n HGA.out j (by have := HHF.out; omega)]; exact ci_01 n j
              obtain ⟨c0, c1⟩ := hc01
              obtain ⟨B2, hB2⟩ : ∃ B2, B2 = bt n j := ⟨_, rfl⟩
              have b01 := bt_01 n j
              rw [← hB2] at b01
              obtain ⟨b0, b1⟩ := b01
              obtain ⟨q2, hq2⟩ : ∃ q2 : Int, (n : Int) / 2 ^ j = q2 := ⟨_, rfl⟩
              have hn64 : n ≤ 64 := by omega
              have hqn : q2 = ((n / 2 ^ j : Nat) : Int) := by rw [← hq2]; simp
              have q20 : 0 ≤ q2 := by rw [hqn]; exact Int.natCast_nonneg _
              have q21 : q2 ≤ 64 := by rw [hqn]; exact Int.ofNat_le.2 (Nat.le_trans (Nat.div_le_self n (2 ^ j)) hn64)
              have hqm : q2 % 2 = B2 := by rw [hqn, hB2]; unfold bt; rw [Int.natCast_emod]; rfl
              obtain ⟨m, hm⟩ : ∃ m, b * B2 = m := ⟨_, rfl⟩
              have m0 : 0 ≤ m := by rw [← hm]; exact Int.mul_nonneg (by omega) b0
              have m1 : m ≤ 16 := by rw [← hm]; exact Int.mul_le_mul hb' b1 b0 (by omega)
              have hdq : (x + m) / b = B2 := by rw [← hm]; exact (quo_in hb x0 x1).1
              have HS := Lib.hid (show x + m - cy = hs b (gF xs) n j by unfold hs; rw [hgx, ← hB2, hm, hcy, cc_right hb W n HGA.out j (by have := HHF.out; omega)])
              have HSP := Lib.hid (show SP b (gF xs) W n ys j by have := hsp; rwa [show min j hf = j by omega] at this)
              have HOP := Lib.hid (show okU b (gF xs) W n (j + 1) = (decide (0 ≤ x + m - cy) && decide (x + m - cy ≤ 2 * b - 2)) by rw [okU_next hq.symm]; unfold okP; rw [if_pos (by have := HHF.out; omega), HS.out])
              have HCN := Lib.hid (show B2 = cc b (gF xs) W n (j + 1) by rw [cc_right hb W n HGA.out (j + 1) (by have := HHF.out; omega), hB2]; rfl)
              have hR2 := HR.out.set i (x + m - cy)
              have hc2 := hR2.1.at.2.2.2.2.1 i (by rw [List.length_set]; omega)
              rw [List.getElem_set_self] at hc2
              clear hB2 hqn hcy hsp hq hgx hR2 hj hW1 hij
              by_cases hijc : i = j
              · subst hijc
                by_cases hin : 0 ≤ x + m - cy ∧ x + m - cy ≤ 2 * b - 2
                · obtain ⟨i0, i1⟩ := hin
                  have HON := Lib.hid (show okU b (gF xs) W n (W - i) = true by rw [HW1.out, HOP.out, decide_eq_true i0, decide_eq_true i1]; rfl)
                  go_wp2_with (first | (go_at_call 71; go_loud (refine (l1Least_i _ _ _).mono ?_; rw [HK.out]; rintro e w2 ⟨rfl, rfl⟩)) | (go_at_call 82; go_loud (refine (l1In_yes _ _ _ _ i0 i1).mono ?_; rintro e w2 ⟨rfl, rfl⟩)))
                  go_roundw
                  case rel =>
                    have h2 := HR.out.set i (x + m - cy)
                    have h3 := h2.1.set i (x + m - cy)
                    exact ⟨i, B2, _, by go_num, by omega, by rw [HON.out], rfl, Lib.hid (fun _ => ⟨by rw [HW1.out]; exact HCN.out, by rw [HW1.out, show min (i + 1) hf = i + 1 by omega]; exact HSP.out.two HIJ.out hji HS.out⟩), h3.1, HB.out.trans ((grown_below h2.2 HB.out.size (Nat.le_refl _)).trans (grown_below h3.2 (by simp; exact HB.out.size) (Nat.le_refl _)))⟩
                  case measure => (simp [intOf]; try omega)
                · have HON := Lib.hid (show okU b (gF xs) W n (W - i) = false by
                    rw [HW1.out, HOP.out]
                    by_cases h0 : 0 ≤ x + m - cy
                    · rw [decide_eq_false (show ¬ x + m - cy ≤ 2 * b - 2 from fun h1 => hin ⟨h0, h1⟩), Bool.and_false]
                    · rw [decide_eq_false h0, Bool.false_and])
                  have hout : x + m - cy < 0 ∨ 2 * b - 2 < x + m - cy := by omega
                  clear hin
                  go_wp2_with (first | (go_at_call 71; go_loud (refine (l1Least_i _ _ _).mono ?_; rw [HK.out]; rintro e w2 ⟨rfl, rfl⟩)) | (go_at_call 82; go_loud (refine (l1In_no _ _ _ _ hout).mono ?_; rintro e w2 ⟨rfl, rfl⟩)))
                  go_roundw
                  case rel =>
                    have h2 := HR.out.set i (x + m - cy)
                    have h3 := h2.1.set i (x + m - cy)
                    exact ⟨i, B2, _, by go_num, by omega, by rw [HON.out], rfl, Lib.hid (fun h9 => by rw [HON.out] at h9; cases h9), h3.1, HB.out.trans ((grown_below h2.2 HB.out.size (Nat.le_refl _)).trans (grown_below h3.2 (by simp; exact HB.out.size) (Nat.le_refl _)))⟩
                  case measure => (simp [intOf]; try omega)
              · skip
                by_cases hin : 0 ≤ x + m - cy ∧ x + m - cy ≤ 2 * b - 2
                · obtain ⟨i0, i1⟩ := hin
                  have HON := Lib.hid (show okU b (gF xs) W n (W - i) = true by rw [HW1.out, HOP.out, decide_eq_true i0, decide_eq_true i1]; rfl)
                  go_wp2_with (first | (go_at_call 71; go_loud (refine (l1Least_i _ _ _).mono ?_; rw [HK.out]; rintro e w2 ⟨rfl, rfl⟩)) | (go_at_call 82; go_loud (refine (l1In_yes _ _ _ _ i0 i1).mono ?_; rintro e w2 ⟨rfl, rfl⟩)))
                  go_roundw
                  case rel =>
                    have h2 := HR.out.set i (x + m - cy)
                    have h3 := h2.1.set j (x + m - cy)
                    exact ⟨i, B2, _, by go_num, by omega, by rw [HON.out], rfl, Lib.hid (fun _ => ⟨by rw [HW1.out]; exact HCN.out, by rw [HW1.out, show min (j + 1) hf = j + 1 by omega]; exact HSP.out.two HIJ.out hji HS.out⟩), h3.1, HB.out.trans ((grown_below h2.2 HB.out.size (Nat.le_refl _)).trans (grown_below h3.2 (by simp; exact HB.out.size) (Nat.le_refl _)))⟩
                  case measure => (simp [intOf]; try omega)
                · have HON := Lib.hid (show okU b (gF xs) W n (W - i) = false by
                    rw [HW1.out, HOP.out]
                    by_cases h0 : 0 ≤ x + m - cy
                    · rw [decide_eq_false (show ¬ x + m - cy ≤ 2 * b - 2 from fun h1 => hin ⟨h0, h1⟩), Bool.and_false]
                    · rw [decide_eq_false h0, Bool.false_and])
                  have hout : x + m - cy < 0 ∨ 2 * b - 2 < x + m - cy := by omega
                  clear hin
                  go_wp2_with (first | (go_at_call 71; go_loud (refine (l1Least_i _ _ _).mono ?_; rw [HK.out]; rintro e w2 ⟨rfl, rfl⟩)) | (go_at_call 82; go_loud (refine (l1In_no _ _ _ _ hout).mono ?_; rintro e w2 ⟨rfl, rfl⟩)))
                  go_roundw
                  case rel =>
                    have h2 := HR.out.set i (x + m - cy)
                    have h3 := h2.1.set j (x + m - cy)
                    exact ⟨i, B2, _, by go_num, by omega, by rw [HON.out], rfl, Lib.hid (fun h9 => by rw [HON.out] at h9; cases h9), h3.1, HB.out.trans ((grown_below h2.2 HB.out.size (Nat.le_refl _)).trans (grown_below h3.2 (by simp; exact HB.out.size) (Nat.le_refl _)))⟩
                  case measure => (simp [intOf]; try omega)
            · have hji : i < j := by omega
              have HK := Lib.hid (show min (i : Int) (j : Int) = (i : Int) by omega)
              obtain ⟨c0, c1⟩ := cc_01 hb hq.symm (by omega) (by have := HHF.out; omega)
              rw [← hcy] at c0 c1
              obtain ⟨s, hs'⟩ : ∃ s, s = hs b (gF xs) n i := ⟨_, rfl⟩
              have hsy : ys[i]'(by omega) = s := by
                have h9 := hsp.2 i (by omega)
                rw [List.getElem?_eq_getElem (by omega), show min i (W - 1 - i) = i by omega, if_pos (by omega), Option.some.injEq] at h9
                rw [h9, hs']
              have hci2 := HR.out.at.2.2.2.2.1 i (by omega)
              rw [hsy] at hci2
              rw [hci2] at hci
              obtain rfl : s = zi := by injection hci with hci; injection hci
              clear hci
              obtain ⟨s0, s1⟩ := okU_in hq.symm hji (by have := HHF.out; omega)
              rw [← hs'] at s0 s1
              obtain ⟨d, hd⟩ : ∃ d, (s + cy) / b = d := ⟨_, rfl⟩
              obtain ⟨r, hr⟩ : ∃ r, (s + cy) % b = r := ⟨_, rfl⟩
              have d0 : 0 ≤ d := by rw [← hd]; exact Int.ediv_nonneg (by omega) (by omega)
              have d1 : d ≤ 31 := by rw [← hd]; exact Int.le_trans (Int.ediv_le_self _ (by omega)) (by omega)
              have r0 : 0 ≤ r := by rw [← hr]; exact Int.emod_nonneg _ (by omega)
              have r1 : r < b := by rw [← hr]; exact Int.emod_lt_of_pos _ (by omega)
              have HSP := Lib.hid (show SP b (gF xs) W n ys hf by have := hsp; rwa [show min j hf = hf by omega] at this)
              have hmn : min j (W - 1 - j) = i := by omega
              have HOP := Lib.hid (show okU b (gF xs) W n (j + 1) = decide (r = x) by rw [okU_next hq.symm]; unfold okP; rw [if_neg (by have := HHF.out; omega), hmn, ← hs', ← hcy, hr, hgx])
              have HCN := Lib.hid (show d = cc b (gF xs) W n (j + 1) by rw [cc_succ b (gF xs) W n j (by omega), hmn, ← hs', ← hcy, hd])
              clear hcy hsp hq hgx hs' hsy hmn hj hW1 hij
              by_cases hrx : r = x
              · have hbe : (r == x) = true := beq_yes hrx
                have HON := Lib.hid (show okU b (gF xs) W n (W - i) = true by rw [HW1.out, HOP.out, decide_eq_true hrx])
                clear hrx
                go_wp2_with (go_at_call 71; go_loud (refine (l1Least_i _ _ _).mono ?_; rw [HK.out]; rintro e w2 ⟨rfl, rfl⟩))
                go_quiet (fail)
                go_wp2
                go_roundw
                case rel => exact ⟨i, d, ys, by go_num, by omega, by rw [HON.out], by first | rfl | rw [hd], Lib.hid (fun _ => ⟨by rw [HW1.out]; exact HCN.out, by rw [HW1.out, show min (j + 1) hf = hf by omega]; exact HSP.out⟩), HR.out.drewN _, below_dN HB.out _⟩
                case measure => (simp [intOf]; try omega)
              · have hbe : (r == x) = false := beq_no hrx
                have HON := Lib.hid (show okU b (gF xs) W n (W - i) = false by rw [HW1.out, HOP.out, decide_eq_false hrx])
                clear hrx
                go_wp2_with (go_at_call 71; go_loud (refine (l1Least_i _ _ _).mono ?_; rw [HK.out]; rintro e w2 ⟨rfl, rfl⟩))
                go_quiet (fail)
                go_wp2
                go_roundw
                case rel => exact ⟨i, d, ys, by go_num, by omega, by rw [HON.out], by first | rfl | rw [hd], Lib.hid (fun h9 => by rw [HON.out] at h9; cases h9), HR.out.drewN _, below_dN HB.out _⟩
                case measure => (simp [intOf]; try omega)
    · obtain rfl : n = N := by omega
      go_wp2
      go_ret2
      exact ⟨_, _, rfl, HLI.out, HBO.out⟩

set_option maxHeartbeats 1000000 in
theorem rvWays_1 (gg c : Nat) (xs : List Int) (b : Int) (W B : Nat) (w : World) (h : Rd w B (.slice (some ⟨gg, 0, none⟩) xs.length c) xs) (hl : W + 1 = xs.length) (hW : 1 ≤ W) (hW' : W ≤ 12) (hb : 2 ≤ b) (hb' : b ≤ 16) (hx : ∀ x ∈ xs, 0 ≤ x ∧ x ≤ b - 1) (hx1 : xs.getD 0 0 = 1) :
    Calls Try.prog 85 #[.slice (some ⟨gg, 0, none⟩) xs.length c, .int .i64 (W : Int), .int .i64 b] w fun e w' => ∃ v vs, e = .returned (.tuple #[v, .bool true]) ∧ LLi w' w.heap.size v vs (outs b (gF xs) W 1 (2 ^ ((W + 1) / 2))) ∧ Below w.heap.size w w' := by
  have HG := Lib.hid h.at.2.2.2.2.1
  have hgg := h.at.2.2.1
  have HGA := Lib.hid (gF_all hb hx)
  obtain ⟨L, hL⟩ : ∃ L, L = xs.length := ⟨_, rfl⟩
  have hcell0 := HG.out 0 (by omega)
  rw [show xs[0]'(by omega) = 1 by rw [List.getD_eq_getElem?_getD, List.getElem?_eq_getElem (by omega)] at hx1; exact hx1] at hcell0
  clear hx1
  have HLL := Lib.hid hL
  rw [← hL]
  have hov : (L : Int) - (W : Int) = 1 := by omega
  obtain ⟨hf, hhf⟩ : ∃ hf, hf = (W + 1) / 2 := ⟨_, rfl⟩
  have HHF := Lib.hid hhf
  rw [← hhf]
  have hf1 : 2 * hf ≤ W + 1 := by omega
  have hf2 : W ≤ 2 * hf := by omega
  have hW2 : (((W : Int) + 1) / 2) = (hf : Int) := by omega
  obtain ⟨N, hN, hN0, hN1, hN2⟩ := pow_hf (show hf ≤ 6 by omega)
  rw [← hN0]
  have HXL := Lib.hid (show W + 1 = xs.length from hl)
  have HX := Lib.hid hx
  clear h hL hhf hN0 hl hx
  go_enter Try.func85, Try.ntmps85
  go_wp2_with (go_at_call 82; refine (l1In_yes _ _ _ _ (by omega) (by omega)).mono ?_; rintro e w1 ⟨rfl, rfl⟩)
  try rw [hW2]
  go_loopw [10, 11] (fun x y wr => ∃ (n : Nat) (v : Value) (vs : List Value), v = x ∧ y = .int .i64 (n : Int) ∧ n ≤ N ∧ LLi wr w.heap.size v vs (outs b (gF xs) W 1 n) ∧ Below w.heap.size w wr) (fun _ y _ => (64 - intOf y).toNat)
  case atStart => exact ⟨0, _, [], rfl, rfl, by omega, LLi.nil _ _, Below.refl _ _⟩
  case round =>
    obtain ⟨n, v, vs, rfl, rfl, hn, hll, hbl⟩ := hrel
    obtain ⟨wo, hwo⟩ : ∃ wo : World, wo = wr := ⟨_, rfl⟩
    rw [← hwo] at hll hbl ⊢
    clear hwo
    have HLI := Lib.hid hll
    have HBO := Lib.hid hbl
    have hszo := HBO.out.size
    have hvl : vs.length ≤ 64 := by rw [hll.len]; have := outs_len b (gF xs) W 1 n; omega
    clear hll hbl
    by_cases hlt : n < N
    · go_wp2_with (at_make; go_loud (refine wpList_mkR rfl _ _ rfl .i64 .i64 _ _ W rfl rfl rfl rfl (by omega) ?_; intro w1 hr1 hg1 hb1; have HR1 := Lib.hid hr1; have HB1 := Lib.hid hb1; clear hr1 hg1 hb1))
      go_loopw [13, 14, 15] (fun x y z wr => ∃ (p : Nat) (cy : Int) (ys : List Int), z = .int .i64 ((p : Int) - 1) ∧ p ≤ W ∧ y = .bool (okU b (gF xs) W n (W - p)) ∧ x = .int .i64 cy ∧ Hid (okU b (gF xs) W n (W - p) = true → cy = cc b (gF xs) W n (W - p) ∧ SP b (gF xs) W n ys (min (W - p) hf)) ∧ Rd wr wo.heap.size (.slice (some ⟨wo.heap.size, 0, none⟩) W W) ys ∧ Below wo.heap.size wo wr) (fun _ _ z _ => (intOf z + 1).toNat)
      case atStart => exact ⟨W, 0, _, rfl, Nat.le_refl _, by rw [Nat.sub_self]; rfl, rfl, Lib.hid (fun _ => by rw [Nat.sub_self]; exact ⟨(cc_zero _ _ _ _).symm, by rw [Nat.zero_min]; exact SP.zero _ _ _ _⟩), HR1.out, HB1.out⟩
      case round =>
        obtain ⟨p, cy, ys, rfl, hp, rfl, rfl, HQ, hr, hbl⟩ := hrel
        have HR := Lib.hid hr
        have HB := Lib.hid hbl
        clear hr hbl
        obtain ⟨q, hq⟩ : ∃ q, q = okU b (gF xs) W n (W - p) := ⟨_, rfl⟩
        have HOK := Lib.hid hq
        rw [← hq]
        cases q with
        | false =>
          have HF := Lib.hid (outs_no (fit_no (over := 1) hq.symm (by omega)))
          clear hq
          by_cases hp0 : p = 0
          · subst hp0
            go_wp2
            go_roundw
            case rel => exact ⟨n + 1, v, vs, rfl, by go_num, by omega, by rw [HF.out]; exact HLI.out.keep HB.out, HBO.out.trans (HB.out.mono hszo)⟩
            case measure => simp [intOf]; omega
          · obtain ⟨i, rfl⟩ : ∃ i, p = i + 1 := ⟨p - 1, by omega⟩
            clear hp0
            go_wp2
            go_roundw
            case rel => exact ⟨n + 1, v, vs, rfl, by go_num, by omega, by rw [HF.out]; exact HLI.out.keep HB.out, HBO.out.trans (HB.out.mono hszo)⟩
            case measure => simp [intOf]; omega
        | true =>
          obtain ⟨hcy, hsp⟩ := HQ.out hq.symm
          by_cases hp0 : p = 0
          · subst hp0
            rw [Nat.sub_zero] at hcy hsp hq
            have HYS := Lib.hid (hsp.done (by omega))
            have HU := Lib.hid hq
            by_cases hc : cy = 1
            · have HF := Lib.hid (outs_yes (show fit b (gF xs) W 1 n = true by unfold fit; rw [← hq, ← hcy, hc]; rfl))
              have hcb : (cy == 1) = true := beq_yes hc
              clear hq hcy hsp hc
              have hszr := HB.out.size
              go_wp2_with (at_builtin; go_loud (refine wpList_appG rfl _ _ 36 24 (.slice none 0 0) 24 Try.underlying36 infoL (by omega) rfl rfl w.heap.size w.heap.size _ _ vs _ rfl rfl ((HLI.out.row.keep HB.out).alloc _) (Rg.lit _ _ _ _ (by omega)) (by simp [Value.oneCell']) (by rw [List.length_singleton]; omega) (by simp; omega) ?_; intro v4 w4 hr4 hg4 hb4; have L4 := Lib.hid ((HLI.out.keep HB.out).snoc (HR.out.mono hszo) (fun i z hz => by obtain ⟨l, _, hl⟩ := HLI.out.rd hz; exact Rd.apart (fun k hk => (hl.lt k hk).2) HR.out) hr4 hg4); have B4 := Lib.hid (((HBO.out.trans (HB.out.mono hszo)).alloc (by omega) _).trans hb4); clear hr4 hg4 hb4))
              go_roundw
              case rel => exact ⟨n + 1, _, _, rfl, by go_num, by omega, by rw [HF.out, ← HYS.out]; exact L4.out, B4.out⟩
              case measure => simp [intOf]; omega
            · have HF := Lib.hid (outs_no (show fit b (gF xs) W 1 n = false by unfold fit; rw [← hcy, decide_eq_false hc, Bool.and_false]))
              have hcb : (cy == 1) = false := beq_no hc
              clear hq hcy hsp hc
              go_wp2
              go_roundw
              case rel => exact ⟨n + 1, v, vs, rfl, by go_num, by omega, by rw [HF.out]; exact HLI.out.keep HB.out, HBO.out.trans (HB.out.mono hszo)⟩
              case measure => simp [intOf]; omega
          · obtain ⟨i, rfl⟩ : ∃ i, p = i + 1 := ⟨p - 1, by omega⟩
            obtain ⟨j, hj⟩ : ∃ j, j = W - (i + 1) := ⟨_, rfl⟩
            rw [← hj] at hcy hsp hq
            have hij : i + j + 1 = W := by omega
            have hW1 : W - i = j + 1 := by omega
            obtain ⟨x, hxx⟩ : ∃ x, x = xs[1 + i]'(by have := HXL.out; omega) := ⟨_, rfl⟩
            have hgx : gF xs j = x := by rw [gF_at xs (1 + i) j (by have := HXL.out; omega), hxx]
            have hcg := Below.keeps_cell (HBO.out.trans (HB.out.mono hszo)) (HG.out (1 + i) (by have := HXL.out; omega))
            rw [← hxx] at hcg
            obtain ⟨x0, x1⟩ := HX.out x (by rw [hxx]; exact List.getElem_mem _)
            have hyl : ys.length = W := hsp.1
            obtain ⟨zi, hci⟩ : ∃ z, wr.cell? ⟨wo.heap.size, i, none⟩ = some (.int .i64 z) := ⟨_, HR.out.at.2.2.2.2.1 i (by omega)⟩
            obtain ⟨zj, hcj⟩ : ∃ z, wr.cell? ⟨wo.heap.size, j, none⟩ = some (.int .i64 z) := ⟨_, HR.out.at.2.2.2.2.1 j (by omega)⟩
            have hfi := HR.out.at.2.2.2.2.2 i
            have hfj := HR.out.at.2.2.2.2.2 j
            have hjj : (W : Int) - 1 - (i : Int) = (j : Int) := by omega
            have HW1 := Lib.hid hW1
            have HIJ := Lib.hid hij
            clear hxx hp0
            by_cases hjh : j < hf
            · have hji : j ≤ i := by omega
              have HK := Lib.hid (show min (i : Int) (j : Int) = (j : Int) by omega)
              have hc01 : 0 ≤ cy ∧ cy ≤ 1 := by rw [hcy, cc_right hb W n HGA.out j (by have := HHF.out; omega)]; exact ci_01 n j
              obtain ⟨c0, c1⟩ := hc01
              obtain ⟨B2, hB2⟩ : ∃ B2, B2 = bt n j := ⟨_, rfl⟩
              have b01 := bt_01 n j
              rw [← hB2] at b01
              obtain ⟨b0, b1⟩ := b01
              obtain ⟨q2, hq2⟩ : ∃ q2 : Int, (n : Int) / 2 ^ j = q2 := ⟨_, rfl⟩
              have hn64 : n ≤ 64 := by omega
              have hqn : q2 = ((n / 2 ^ j : Nat) : Int) := by rw [← hq2]; simp
              have q20 : 0 ≤ q2 := by rw [hqn]; exact Int.natCast_nonneg _
              have q21 : q2 ≤ 64 := by rw [hqn]; exact Int.ofNat_le.2 (Nat.le_trans (Nat.div_le_self n (2 ^ j)) hn64)
              have hqm : q2 % 2 = B2 := by rw [hqn, hB2]; unfold bt; rw [Int.natCast_emod]; rfl
              obtain ⟨m, hm⟩ : ∃ m, b * B2 = m := ⟨_, rfl⟩
              have m0 : 0 ≤ m := by rw [← hm]; exact Int.mul_nonneg (by omega) b0
              have m1 : m ≤ 16 := by rw [← hm]; exact Int.mul_le_mul hb' b1 b0 (by omega)
              have hdq : (x + m) / b = B2 := by rw [← hm]; exact (quo_in hb x0 x1).1
              have HS := Lib.hid (show x + m - cy = hs b (gF xs) n j by unfold hs; rw [hgx, ← hB2, hm, hcy, cc_right hb W n HGA.out j (by have := HHF.out; omega)])
              have HSP := Lib.hid (show SP b (gF xs) W n ys j by have := hsp; rwa [show min j hf = j by omega] at this)
              have HOP := Lib.hid (show okU b (gF xs) W n (j + 1) = (decide (0 ≤ x + m - cy) && decide (x + m - cy ≤ 2 * b - 2)) by rw [okU_next hq.symm]; unfold okP; rw [if_pos (by have := HHF.out; omega), HS.out])
              have HCN := Lib.hid (show B2 = cc b (gF xs) W n (j + 1) by rw [cc_right hb W n HGA.out (j + 1) (by have := HHF.out; omega), hB2]; rfl)
              have hR2 := HR.out.set i (x + m - cy)
              have hc2 := hR2.1.at.2.2.2.2.1 i (by rw [List.length_set]; omega)
              rw [List.getElem_set_self] at hc2
              clear hB2 hqn hcy hsp hq hgx hR2 hj hW1 hij
              by_cases hijc : i = j
              · subst hijc
                by_cases hin : 0 ≤ x + m - cy ∧ x + m - cy ≤ 2 * b - 2
                · obtain ⟨i0, i1⟩ := hin
                  have HON := Lib.hid (show okU b (gF xs) W n (W - i) = true by rw [HW1.out, HOP.out, decide_eq_true i0, decide_eq_true i1]; rfl)
                  go_wp2_with (first | (go_at_call 71; go_loud (refine (l1Least_i _ _ _).mono ?_; rw [HK.out]; rintro e w2 ⟨rfl, rfl⟩)) | (go_at_call 82; go_loud (refine (l1In_yes _ _ _ _ i0 i1).mono ?_; rintro e w2 ⟨rfl, rfl⟩)))
                  go_roundw
                  case rel =>
                    have h2 := HR.out.set i (x + m - cy)
                    have h3 := h2.1.set i (x + m - cy)
                    exact ⟨i, B2, _, by go_num, by omega, by rw [HON.out], rfl, Lib.hid (fun _ => ⟨by rw [HW1.out]; exact HCN.out, by rw [HW1.out, show min (i + 1) hf = i + 1 by omega]; exact HSP.out.two HIJ.out hji HS.out⟩), h3.1, HB.out.trans ((grown_below h2.2 HB.out.size (Nat.le_refl _)).trans (grown_below h3.2 (by simp; exact HB.out.size) (Nat.le_refl _)))⟩
                  case measure => (simp [intOf]; try omega)
                · have HON := Lib.hid (show okU b (gF xs) W n (W - i) = false by
                    rw [HW1.out, HOP.out]
                    by_cases h0 : 0 ≤ x + m - cy
                    · rw [decide_eq_false (show ¬ x + m - cy ≤ 2 * b - 2 from fun h1 => hin ⟨h0, h1⟩), Bool.and_false]
                    · rw [decide_eq_false h0, Bool.false_and])
                  have hout : x + m - cy < 0 ∨ 2 * b - 2 < x + m - cy := by omega
                  clear hin
                  go_wp2_with (first | (go_at_call 71; go_loud (refine (l1Least_i _ _ _).mono ?_; rw [HK.out]; rintro e w2 ⟨rfl, rfl⟩)) | (go_at_call 82; go_loud (refine (l1In_no _ _ _ _ hout).mono ?_; rintro e w2 ⟨rfl, rfl⟩)))
                  go_roundw
                  case rel =>
                    have h2 := HR.out.set i (x + m - cy)
                    have h3 := h2.1.set i (x + m - cy)
                    exact ⟨i, B2, _, by go_num, by omega, by rw [HON.out], rfl, Lib.hid (fun h9 => by rw [HON.out] at h9; cases h9), h3.1, HB.out.trans ((grown_below h2.2 HB.out.size (Nat.le_refl _)).trans (grown_below h3.2 (by simp; exact HB.out.size) (Nat.le_refl _)))⟩
                  case measure => (simp [intOf]; try omega)
              · skip
                by_cases hin : 0 ≤ x + m - cy ∧ x + m - cy ≤ 2 * b - 2
                · obtain ⟨i0, i1⟩ := hin
                  have HON := Lib.hid (show okU b (gF xs) W n (W - i) = true by rw [HW1.out, HOP.out, decide_eq_true i0, decide_eq_true i1]; rfl)
                  go_wp2_with (first | (go_at_call 71; go_loud (refine (l1Least_i _ _ _).mono ?_; rw [HK.out]; rintro e w2 ⟨rfl, rfl⟩)) | (go_at_call 82; go_loud (refine (l1In_yes _ _ _ _ i0 i1).mono ?_; rintro e w2 ⟨rfl, rfl⟩)))
                  go_roundw
                  case rel =>
                    have h2 := HR.out.set i (x + m - cy)
                    have h3 := h2.1.set j (x + m - cy)
                    exact ⟨i, B2, _, by go_num, by omega, by rw [HON.out], rfl, Lib.hid (fun _ => ⟨by rw [HW1.out]; exact HCN.out, by rw [HW1.out, show min (j + 1) hf = j + 1 by omega]; exact HSP.out.two HIJ.out hji HS.out⟩), h3.1, HB.out.trans ((grown_below h2.2 HB.out.size (Nat.le_refl _)).trans (grown_below h3.2 (by simp; exact HB.out.size) (Nat.le_refl _)))⟩
                  case measure => (simp [intOf]; try omega)
                · have HON := Lib.hid (show okU b (gF xs) W n (W - i) = false by
                    rw [HW1.out, HOP.out]
                    by_cases h0 : 0 ≤ x + m - cy
                    · rw [decide_eq_false (show ¬ x + m - cy ≤ 2 * b - 2 from fun h1 => hin ⟨h0, h1⟩), Bool.and_false]
                    · rw [decide_eq_false h0, Bool.false_and])
                  have hout : x + m - cy < 0 ∨ 2 * b - 2 < x + m - cy := by omega
                  clear hin
                  go_wp2_with (first | (go_at_call 71; go_loud (refine (l1Least_i _ _ _).mono ?_; rw [HK.out]; rintro e w2 ⟨rfl, rfl⟩)) | (go_at_call 82; go_loud (refine (l1In_no _ _ _ _ hout).mono ?_; rintro e w2 ⟨rfl, rfl⟩)))
                  go_roundw
                  case rel =>
                    have h2 := HR.out.set i (x + m - cy)
                    have h3 := h2.1.set j (x + m - cy)
                    exact ⟨i, B2, _, by go_num, by omega, by rw [HON.out], rfl, Lib.hid (fun h9 => by rw [HON.out] at h9; cases h9), h3.1, HB.out.trans ((grown_below h2.2 HB.out.size (Nat.le_refl _)).trans (grown_below h3.2 (by simp; exact HB.out.size) (Nat.le_refl _)))⟩
                  case measure => (simp [intOf]; try omega)
            · have hji : i < j := by omega
              have HK := Lib.hid (show min (i : Int) (j : Int) = (i : Int) by omega)
              obtain ⟨c0, c1⟩ := cc_01 hb hq.symm (by omega) (by have := HHF.out; omega)
              rw [← hcy] at c0 c1
              obtain ⟨s, hs'⟩ : ∃ s, s = hs b (gF xs) n i := ⟨_, rfl⟩
              have hsy : ys[i]'(by omega) = s := by
                have h9 := hsp.2 i (by omega)
                rw [List.getElem?_eq_getElem (by omega), show min i (W - 1 - i) = i by omega, if_pos (by omega), Option.some.injEq] at h9
                rw [h9, hs']
              have hci2 := HR.out.at.2.2.2.2.1 i (by omega)
              rw [hsy] at hci2
              rw [hci2] at hci
              obtain rfl : s = zi := by injection hci with hci; injection hci
              clear hci
              obtain ⟨s0, s1⟩ := okU_in hq.symm hji (by have := HHF.out; omega)
              rw [← hs'] at s0 s1
              obtain ⟨d, hd⟩ : ∃ d, (s + cy) / b = d := ⟨_, rfl⟩
              obtain ⟨r, hr⟩ : ∃ r, (s + cy) % b = r := ⟨_, rfl⟩
              have d0 : 0 ≤ d := by rw [← hd]; exact Int.ediv_nonneg (by omega) (by omega)
              have d1 : d ≤ 31 := by rw [← hd]; exact Int.le_trans (Int.ediv_le_self _ (by omega)) (by omega)
              have r0 : 0 ≤ r := by rw [← hr]; exact Int.emod_nonneg _ (by omega)
              have r1 : r < b := by rw [← hr]; exact Int.emod_lt_of_pos _ (by omega)
              have HSP := Lib.hid (show SP b (gF xs) W n ys hf by have := hsp; rwa [show min j hf = hf by omega] at this)
              have hmn : min j (W - 1 - j) = i := by omega
              have HOP := Lib.hid (show okU b (gF xs) W n (j + 1) = decide (r = x) by rw [okU_next hq.symm]; unfold okP; rw [if_neg (by have := HHF.out; omega), hmn, ← hs', ← hcy, hr, hgx])
              have HCN := Lib.hid (show d = cc b (gF xs) W n (j + 1) by rw [cc_succ b (gF xs) W n j (by omega), hmn, ← hs', ← hcy, hd])
              clear hcy hsp hq hgx hs' hsy hmn hj hW1 hij
              by_cases hrx : r = x
              · have hbe : (r == x) = true := beq_yes hrx
                have HON := Lib.hid (show okU b (gF xs) W n (W - i) = true by rw [HW1.out, HOP.out, decide_eq_true hrx])
                clear hrx
                go_wp2_with (go_at_call 71; go_loud (refine (l1Least_i _ _ _).mono ?_; rw [HK.out]; rintro e w2 ⟨rfl, rfl⟩))
                go_quiet (fail)
                go_wp2
                go_roundw
                case rel => exact ⟨i, d, ys, by go_num, by omega, by rw [HON.out], by first | rfl | rw [hd], Lib.hid (fun _ => ⟨by rw [HW1.out]; exact HCN.out, by rw [HW1.out, show min (j + 1) hf = hf by omega]; exact HSP.out⟩), HR.out.drewN _, below_dN HB.out _⟩
                case measure => (simp [intOf]; try omega)
              · have hbe : (r == x) = false := beq_no hrx
                have HON := Lib.hid (show okU b (gF xs) W n (W - i) = false by rw [HW1.out, HOP.out, decide_eq_false hrx])
                clear hrx
                go_wp2_with (go_at_call 71; go_loud (refine (l1Least_i _ _ _).mono ?_; rw [HK.out]; rintro e w2 ⟨rfl, rfl⟩))
                go_quiet (fail)
                go_wp2
                go_roundw
                case rel => exact ⟨i, d, ys, by go_num, by omega, by rw [HON.out], by first | rfl | rw [hd], Lib.hid (fun h9 => by rw [HON.out] at h9; cases h9), HR.out.drewN _, below_dN HB.out _⟩
                case measure => (simp [intOf]; try omega)
    · obtain rfl : n = N := by omega
      go_wp2
      go_ret2
      exact ⟨_, _, rfl, HLI.out, HBO.out⟩

end Go.Proofs.Ytnggfcopndcppaa
