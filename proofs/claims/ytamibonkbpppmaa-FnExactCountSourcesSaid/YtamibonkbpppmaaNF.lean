/-
  CountSources and FirstSource: the model and the program (written by wip/tools/gen_nf.py).
-/
import Derived.Test.YtamibonkbpppmaaND
import Derived.Test.YtamibonkbpppmaaNE
import Derived.Test.YtamibonkbpppmaaTS
namespace Go.Proofs.Ytamibonkbpppmaa
open Go.RowKit
set_option linter.unusedVariables false
set_option linter.unusedSimpArgs false
set_option maxRecDepth 100000

/-- Sources are asked for. -/
def askS (xs : List Int) (b : Int) : Bool := okR b xs && decide (xs.length ≤ 12)
theorem askS_yes {xs : List Int} {b : Int} (h : okR b xs = true) (hl : xs.length ≤ 12) : askS xs b = true := by unfold askS; rw [h, decide_eq_true hl]; rfl
theorem askS_long {xs : List Int} {b : Int} (hl : ¬ xs.length ≤ 12) : askS xs b = false := by unfold askS; rw [decide_eq_false hl, Bool.and_false]
theorem askS_no {xs : List Int} {b : Int} (h : okR b xs = false) : askS xs b = false := by unfold askS; rw [h, Bool.false_and]

theorem rvAsked_any (v : Value) (xs : List Int) (b : Int) (B : Nat) (w : World) (h : Rd w B v xs) (hl : xs.length ≤ 1048576) :
    Calls Try.prog 37 #[v, .int .i64 b] w fun e w' => e = .returned (.bool (askS xs b)) ∧ w = w' := by
  have H := Lib.hid h
  obtain ⟨a, cap, rfl⟩ := h.sl.len
  clear h
  obtain ⟨q, hq⟩ : ∃ q, q = okR b xs := ⟨_, rfl⟩
  have HQ := Lib.hid hq
  cases q with
  | true =>
    by_cases h12 : xs.length ≤ 12
    · have HA := Lib.hid (askS_yes hq.symm h12)
      have HDI := Lib.hid (show decide ((xs.length : Int) ≤ 12) = true from decide_eq_true (by omega))
      clear hq
      go_enter Try.func37, Try.ntmps37
      go_wp2_with (go_at_call 58; refine (rvGood_any _ _ _ _ _ H.out hl).mono ?_; rw [← HQ.out]; rintro e w1 ⟨rfl, rfl⟩)
      go_ret
      exact ⟨by rw [HA.out]; show Ending.returned (.bool (decide ((xs.length : Int) ≤ 12))) = _; rw [HDI.out], rfl⟩
    · have HA := Lib.hid (askS_long (b := b) h12)
      have HDI := Lib.hid (show decide ((xs.length : Int) ≤ 12) = false from decide_eq_false (by omega))
      clear hq
      go_enter Try.func37, Try.ntmps37
      go_wp2_with (go_at_call 58; refine (rvGood_any _ _ _ _ _ H.out hl).mono ?_; rw [← HQ.out]; rintro e w1 ⟨rfl, rfl⟩)
      go_ret
      exact ⟨by rw [HA.out]; show Ending.returned (.bool (decide ((xs.length : Int) ≤ 12))) = _; rw [HDI.out], rfl⟩
  | false =>
    have HA := Lib.hid (askS_no hq.symm)
    clear hq
    go_enter Try.func37, Try.ntmps37
    go_wp2_with (go_at_call 58; refine (rvGood_any _ _ _ _ _ H.out hl).mono ?_; rw [← HQ.out]; rintro e w1 ⟨rfl, rfl⟩)
    go_ret
    exact ⟨by rw [HA.out]; rfl, rfl⟩

theorem gl_rev (xs : List Int) : gl (gF xs) xs.length = xs.reverse := by
  apply List.ext_getElem
  · rw [gl_len, List.length_reverse]
  · intro j h1 h2
    rw [gl_len] at h1
    have : (gl (gF xs) xs.length)[j]'(by rw [gl_len]; exact h1) = gF xs j := by simp [gl]
    rw [this]
    unfold gF
    rw [List.getD_eq_getElem?_getD, List.getElem?_eq_getElem h2]; rfl
theorem gl_snoc (g : Nat → Int) (w : Nat) : gl g (w + 1) = gl g w ++ [g w] := by unfold gl; rw [List.range_succ, List.map_append]; rfl

theorem gv_same (b : Int) (xs : List Int) : gv' b (gF xs) xs.length 0 = vD b xs := by
  unfold gv' vD; rw [gl_rev, Int.zero_mul, Int.add_zero]
theorem vD_top (b : Int) (xs : List Int) (W : Nat) (h : W + 1 = xs.length) : vD b xs = vs b (gl (gF xs) W) + xs.getD 0 0 * b ^ W := by
  unfold vD
  rw [← gl_rev, ← h, gl_snoc, vs_snoc, gl_len, gF_at xs 0 W (by omega), List.getD_eq_getElem?_getD, List.getElem?_eq_getElem (by omega)]; rfl
theorem gv_less (b : Int) (xs : List Int) (W : Nat) (h : W + 1 = xs.length) (h1 : xs.getD 0 0 = 1) : gv' b (gF xs) W 1 = vD b xs := by
  rw [vD_top b xs W h, h1]; rfl
theorem sol_none {b : Int} (hb : 2 ≤ b) {xs : List Int} (hx : ∀ x ∈ xs, 0 ≤ x ∧ x ≤ b - 1) (W : Nat) (h : W + 1 = xs.length) (h1 : 2 ≤ xs.getD 0 0) : solF b W (vD b xs) = none := by
  cases hs' : solF b W (vD b xs) with
  | none => rfl
  | some H =>
    have hv := vD_top b xs W h
    have h2 := vs_bd b hb (gl (gF xs) W) (gl_all (gF_all hb hx) W)
    have hp := pow_pos' b hb W
    have h3 : 2 * b ^ W ≤ xs.getD 0 0 * b ^ W := Int.mul_le_mul_of_nonneg_right h1 (by omega)
    obtain ⟨a1, a2⟩ := solF_sound hb W _ H (by omega) hs'
    have := (vlH_bd hb W H a1).2
    omega

theorem rvWays_no (gg c : Nat) (xs : List Int) (b : Int) (W B : Nat) (w : World) (h : Rd w B (.slice (some ⟨gg, 0, none⟩) xs.length c) xs) (hl : W + 1 = xs.length) (hW' : W ≤ 12) (h2 : 2 ≤ xs.getD 0 0) :
    Calls Try.prog 38 #[.slice (some ⟨gg, 0, none⟩) xs.length c, .int .i64 (W : Int), .int .i64 b] w fun e w' => e = .returned (.tuple #[.slice none 0 0, .bool false]) ∧ w = w' := by
  obtain ⟨x, hx⟩ : ∃ x, x = xs[0]'(by omega) := ⟨_, rfl⟩
  have hcell := h.at.2.2.2.2.1 0 (by omega)
  rw [← hx] at hcell
  have hx2 : 2 ≤ x := by rw [List.getD_eq_getElem?_getD, List.getElem?_eq_getElem (by omega)] at h2; rw [hx]; exact h2
  have hbe : (x == 1) = false := beq_no (by omega)
  obtain ⟨L, hL⟩ : ∃ L, L = xs.length := ⟨_, rfl⟩
  have hov : (L : Int) - (W : Int) = 1 := by omega
  rw [← hL]
  clear h hx h2 hL hl
  go_enter Try.func38, Try.ntmps38
  go_wp2_with (go_at_call 45; refine (l1In_yes _ _ _ _ (by omega) (by omega)).mono ?_; rintro e w1 ⟨rfl, rfl⟩)
  go_ret2
  exact ⟨rfl, rfl⟩

/-- The lists found: none, or one. -/
def Found (b : Int) (W : Nat) (V : Int) (w' : World) (B : Nat) (v : Value) : Prop :=
  (solF b W V = none ∧ ∃ a c, v = .slice a 0 c) ∨
  ∃ H gv cv gu cu, solF b W V = some H ∧ RH b W H ∧ v = .slice (some ⟨gv, 0, none⟩) 1 cv ∧ w'.cell? ⟨gv, 0, none⟩ = some (.slice (some ⟨gu, 0, none⟩) W cu) ∧ Rd w' B (.slice (some ⟨gu, 0, none⟩) W cu) (fl W H)

theorem found_of {b : Int} {W : Nat} {V : Int} {w' : World} {B : Nat} {v : Value} {vs : List Value} (hb : 2 ≤ b) (hV : 0 ≤ V) (hW : 1 ≤ W) (h : LLi w' B v vs (ways b W V)) : Found b W V w' B v := by
  cases hs' : solF b W V with
  | none =>
    left
    have hw : ways b W V = [] := by unfold ways; rw [hs']
    rw [hw] at h
    have h0 : vs = [] := List.eq_nil_of_length_eq_zero (by rw [h.len]; rfl)
    obtain ⟨a, c, hv, _⟩ := h.f.shape
    rw [h0] at hv
    exact ⟨hs', a, c, hv⟩
  | some H =>
    right
    have hw : ways b W V = [fl W H] := by unfold ways; rw [hs']
    rw [hw] at h
    obtain ⟨u, g, cap, h1, h2, h3, h4⟩ := h.get 0 (by simp)
    rcases h4.cases with ⟨_, hx⟩ | ⟨gu, cu, hu, _⟩
    · exfalso
      have := congrArg List.length hx
      simp [fl_len] at this; omega
    · simp only [List.getElem_cons_zero, fl_len] at hu h4
      subst hu
      exact ⟨H, g, cap, gu, cu, hs', (solF_sound hb W V H hV hs').1, by rw [h2]; rfl, h3, h4⟩

theorem rvWays_c (gg c : Nat) (xs : List Int) (b : Int) (W B : Nat) (w : World) (h : Rd w B (.slice (some ⟨gg, 0, none⟩) xs.length c) xs) (hl : W = xs.length ∨ W + 1 = xs.length) (hW : 1 ≤ W) (hl12 : xs.length ≤ 12) (hb : 2 ≤ b) (hb' : b ≤ 16) (hx : ∀ x ∈ xs, 0 ≤ x ∧ x ≤ b - 1) (h0 : 1 ≤ xs.getD 0 0 ∨ xs.length = 1) :
    Calls Try.prog 38 #[.slice (some ⟨gg, 0, none⟩) xs.length c, .int .i64 (W : Int), .int .i64 b] w fun e w' => ∃ v q, e = .returned (.tuple #[v, .bool q]) ∧ Found b W (vD b xs) w' w.heap.size v ∧ Below w.heap.size w w' := by
  have hV := (vD_bd hb hb' hx hl12).1
  rcases hl with rfl | hl
  · refine (rvWays_0 gg c xs b xs.length B w h (by omega) hW hl12 hb hb' hx).mono ?_
    rintro e w' ⟨v, vs', rfl, hll, hbl⟩
    rw [outs_all hb (gF_all hb hx) (by rw [gv_same]; exact hV), gv_same] at hll
    exact ⟨v, true, rfl, found_of hb hV hW hll, hbl⟩
  · by_cases h1 : xs.getD 0 0 = 1
    · refine (rvWays_1 gg c xs b W B w h hl hW (by omega) hb hb' hx h1).mono ?_
      rintro e w' ⟨v, vs', rfl, hll, hbl⟩
      rw [outs_all hb (gF_all hb hx) (by rw [gv_less b xs W hl h1]; exact hV), gv_less b xs W hl h1] at hll
      exact ⟨v, true, rfl, found_of hb hV hW hll, hbl⟩
    · have h2 : 2 ≤ xs.getD 0 0 := by omega
      refine (rvWays_no gg c xs b W B w h hl (by omega) h2).mono ?_
      rintro e w' ⟨rfl, rfl⟩
      exact ⟨_, false, rfl, .inl ⟨sol_none hb hx W hl h2, none, 0, rfl⟩, Below.refl _ _⟩

theorem sW_none {b : Int} {W : Nat} {V : Int} (h : solF b W V = none) : sW b W V = 0 := by
  unfold sW srcV; rw [h]; split <;> rfl
theorem sW_some {b : Int} {W : Nat} {V : Int} {H : List Int} (h : solF b W V = some H) (hW : 1 ≤ W) : sW b W V = cntH b W 1 H := by
  unfold sW srcV
  rw [if_neg (by omega), h]
  by_cases e : cntH b W 1 H = 0
  · simp [e]
  · simp [e]
theorem src_some {b : Int} {W : Nat} {V : Int} {H : List Int} (h : solF b W V = some H) (hc : ¬ cntH b W 1 H = 0) : (srcV b W V 1).2 = fstH b W 1 H := by
  unfold srcV
  rw [h]
  simp [hc]

/-- How many are counted behind k widths. -/
def cP (b : Int) (xs : List Int) : Nat → Int
  | 0 => 0
  | 1 => sW b (xs.length - 1) (vD b xs)
  | _ => cntS b xs
theorem cP_next (b : Int) (xs : List Int) (k : Nat) (hk : k < 2) (h1 : 1 ≤ xs.length) : cP b xs (k + 1) = cP b xs k + sW b (xs.length - 1 + k) (vD b xs) := by
  have : k = 0 ∨ k = 1 := by omega
  rcases this with rfl | rfl
  · simp [cP]
  · show cntS b xs = sW b (xs.length - 1) (vD b xs) + sW b (xs.length - 1 + 1) (vD b xs)
    rw [cntS, show xs.length - 1 + 1 = xs.length by omega]
theorem sW_bd {b : Int} (hb : 2 ≤ b) (hb' : b ≤ 16) {W : Nat} (hW : W ≤ 12) (V : Int) : 0 ≤ sW b W V ∧ sW b W V ≤ 281474976710656 := by
  unfold sW
  split
  · omega
  · exact ⟨srcV_nn _ _ _ _, srcV_le hb hb' hW _ _ (by omega)⟩
theorem cP_bd {b : Int} (hb : 2 ≤ b) (hb' : b ≤ 16) (xs : List Int) (hl : xs.length ≤ 12) (k : Nat) : 0 ≤ cP b xs k ∧ cP b xs k ≤ 562949953421312 := by
  have h1 := sW_bd hb hb' (show xs.length - 1 ≤ 12 by omega) (vD b xs)
  have h2 := sW_bd hb hb' hl (vD b xs)
  match k with
  | 0 => simp [cP]
  | 1 => rw [cP]; omega
  | k + 2 => show 0 ≤ cntS b xs ∧ cntS b xs ≤ _; rw [cntS]; omega

theorem Dg.head0 {b : Int} {xs : List Int} (h : okR b xs = true) : 1 ≤ xs.getD 0 0 ∨ xs.length = 1 := by
  have hd := okR_dg h
  have h2 : 2 ≤ b ∧ b ≤ 16 := ⟨hd.b2, hd.b16⟩
  have hal : allIn 0 (b - 1) xs = true := (allIn_iff _ _ _).2 hd.all
  have h3 := okR_rest h2 ⟨hd.l1, hd.l40⟩ hal
  rw [h] at h3
  have h4 := h3.symm
  rw [Bool.or_eq_true, decide_eq_true_eq, decide_eq_true_eq] at h4
  rcases h4 with h4 | h4
  · left
    rw [List.getD_eq_getElem?_getD, List.getElem?_eq_getElem (by have := hd.l1; omega)]
    show 1 ≤ xs[0]'_
    omega
  · exact .inr h4

def cntQ (xs : List Int) (b : Int) : Int := if askS xs b = true then cntS b xs else 0
abbrev VAL_CountSources (xs : List Int) (b : Int) : Value := .tuple #[.int .i64 (cntQ xs b), .bool (askS xs b)]
abbrev OK_FirstSource (xs : List Int) (b : Int) : Bool := askS xs b && decide (0 < cntS b xs)
def LF_FirstSource (xs : List Int) (b : Int) : List Int := if (askS xs b && decide (0 < cntS b xs)) = true then fstS b xs else []
theorem LF_FirstSource_len (xs : List Int) (b : Int) (hl : xs.length ≤ 1048576) : (LF_FirstSource xs b).length ≤ 2000000 := by
  unfold LF_FirstSource
  split
  · unfold fstS
    split
    · have := srcV_len b xs.length (vD b xs) 1; omega
    · have := srcV_len b (xs.length - 1) (vD b xs) 1; omega
  · simp

theorem spec_CountSources (v : Value) (xs : List Int) (b : Int) (B : Nat) (w : World) (h : Rd w B v xs) (hl : xs.length ≤ 1048576) :
    Calls Try.prog 14 #[v, .int .i64 b] w fun e w' => e = .returned (VAL_CountSources xs b) ∧ Below w.heap.size w w' := by
  have H := Lib.hid h
  obtain ⟨a, cap, rfl⟩ := h.sl.len
  rcases okR_cases b xs with ⟨ho, hd⟩ | ho
  · by_cases h12 : xs.length ≤ 12
    · have HA := Lib.hid (askS_yes ho h12)
      have HO := Lib.hid ho
      have H00 := Lib.hid (Dg.head0 ho)
      have hb := hd.b2
      have hb' := hd.b16
      have h1 := hd.l1
      have HX := Lib.hid hd.all
      clear hd ho
      obtain ⟨g, cap2, hv⟩ : ∃ g cap2, (Value.slice a xs.length cap) = .slice (some ⟨g, 0, none⟩) xs.length cap2 := by
        rcases h.cases with ⟨_, hx⟩ | ⟨g, cap2, hu, _⟩
        · exfalso; rw [hx] at h1; simp at h1
        · exact ⟨g, cap2, hu⟩
      rw [hv] at H ⊢
      clear h hv
      have HVAL := Lib.hid (show VAL_CountSources xs b = .tuple #[.int .i64 (cP b xs 2), .bool true] by unfold VAL_CountSources cntQ; rw [HA.out, if_pos rfl]; rfl)
      rw [HVAL.out]
      obtain ⟨L, hL⟩ : ∃ L, L = xs.length := ⟨_, rfl⟩
      have HL := Lib.hid hL
      rw [← hL] at h1 h12 hl ⊢
      clear hL
      go_enter Try.func14, Try.ntmps14
      go_wp2_with (go_at_call 37; refine (rvAsked_any _ _ _ _ _ (by have h9 := H.out; rw [← HL.out] at h9; exact h9) (by rw [← HL.out]; exact hl)).mono ?_; rw [HA.out]; rintro e w1 ⟨rfl, rfl⟩)
      go_loopw [6, 7] (fun x y wr => ∃ k : Nat, k ≤ 2 ∧ y = .int .i64 ((L : Int) - 1 + (k : Int)) ∧ x = .int .i64 (cP b xs k) ∧ Below w.heap.size w wr) (fun _ y _ => ((L : Int) + 1 - intOf y).toNat)
      case atStart => exact ⟨0, by omega, by go_num, rfl, Below.refl _ _⟩
      case round =>
        obtain ⟨k, hk, rfl, rfl, hbl⟩ := hrel
        have HB := Lib.hid hbl
        clear hbl
        obtain ⟨c0, hc0⟩ : ∃ c0, c0 = cP b xs k := ⟨_, rfl⟩
        obtain ⟨b0, b1⟩ := cP_bd hb hb' xs (by rw [← HL.out]; exact h12) k
        rw [← hc0] at b0 b1 ⊢
        by_cases hlt : k < 2
        · have hN := cP_next b xs k hlt (by rw [← HL.out]; exact h1)
          rw [← HL.out, ← hc0] at hN
          obtain ⟨W, hW⟩ : ∃ W, W = L - 1 + k := ⟨_, rfl⟩
          have hwi : (L : Int) - 1 + (k : Int) = (W : Int) := by omega
          have hW12 : W ≤ 12 := by omega
          have HWL := Lib.hid (show W = xs.length ∨ W + 1 = xs.length by rw [← HL.out]; omega)
          rw [← hW] at hN
          have HN := Lib.hid hN
          have hle : (W : Int) ≤ (L : Int) := by omega
          have hw2 : (W : Int) + 1 = (L : Int) - 1 + ((k + 1 : Nat) : Int) := by omega
          have HW2 := Lib.hid hw2
          rw [hwi]
          clear hc0 hN hW hwi hw2
          by_cases hW0 : W = 0
          · subst hW0
            have HZ := Lib.hid (show cP b xs (k + 1) = c0 by rw [HN.out]; simp [sW])
            go_wp2
            go_roundw
            case rel => exact ⟨k + 1, by omega, by rw [← HW2.out]; simp, by rw [HZ.out], HB.out⟩
            case measure => (simp [intOf]; try omega)
          · have hWb : ((W : Int) == 0) = false := beq_no (by omega)
            have hW1 : 1 ≤ W := by omega
            clear hW0
            go_wp2_with fail
            rw [HL.out]
            refine (rvWays_c g cap2 xs b W _ _ (H.out.keep HB.out) HWL.out hW1 (by rw [← HL.out]; exact h12) hb hb' HX.out H00.out).mono ?_
            rw [← HL.out]
            rintro e w2 ⟨v2, q2, rfl, hf, hb2⟩
            have HB2 := Lib.hid (Below.step HB.out HB.out.size hb2)
            clear hb2
            rcases hf with ⟨hs, a2, d2, rfl⟩ | ⟨Hh, gv, cv, gu, cu, hs, hrh, rfl, hcell, hrd⟩
            · have HZ := Lib.hid (show cP b xs (k + 1) = c0 by rw [HN.out, sW_none hs, Int.add_zero])
              clear hs
              go_wp2
              go_loop [6, 36] (fun x y => x = .int .i64 c0 ∧ y = .int .i64 0) (fun _ _ => 0)
              case atStart => exact ⟨rfl, rfl⟩
              case round =>
                obtain ⟨rfl, rfl⟩ := hrel
                go_wp2
                go_roundw
                case rel => exact ⟨k + 1, by omega, by rw [← HW2.out], by rw [HZ.out], HB2.out⟩
                case measure => (simp [intOf]; try omega)
            · obtain ⟨C, hC⟩ : ∃ C, C = cntH b W 1 Hh := ⟨_, rfl⟩
              have hsw := sW_some hs hW1
              have hsb := sW_bd hb hb' hW12 (vD b xs)
              rw [hsw, ← hC] at hsb
              obtain ⟨C0, C1⟩ := hsb
              have HZ := Lib.hid (show cP b xs (k + 1) = c0 + C by rw [HN.out, hsw, hC])
              have HC := Lib.hid hC
              have HRH := Lib.hid hrh
              have HRD := Lib.hid hrd
              clear hs hsw hC hrh hrd
              go_wp2
              go_loop [6, 36] (fun x y => (x = .int .i64 c0 ∧ y = .int .i64 0) ∨ (x = .int .i64 (c0 + C) ∧ y = .int .i64 1)) (fun _ y => (1 - intOf y).toNat)
              case atStart => exact .inl ⟨rfl, rfl⟩
              case round =>
                rcases hrel with ⟨rfl, rfl⟩ | ⟨rfl, rfl⟩
                · go_wp2_with (go_at_call 39; go_loud (refine (rvCount_any gu cu b W Hh _ _ HRD.out HRH.out hW1 hW12 hb hb').mono ?_; rw [← HC.out]; rintro e w3 ⟨rfl, rfl⟩))
                  go_round
                  case rel => first | exact .inr ⟨rfl, rfl⟩ | (right; exact ⟨by go_num, by go_num⟩) | simp
                  case measure => simp [intOf]
                · go_wp2
                  go_roundw
                  case rel => exact ⟨k + 1, by omega, by rw [← HW2.out], by rw [HZ.out], HB2.out⟩
                  case measure => (simp [intOf]; try omega)
        · obtain rfl : k = 2 := by omega
          have HC2 := Lib.hid hc0
          clear hc0
          go_wp2
          go_ret2
          exact ⟨by rw [← HC2.out]; rfl, HB.out⟩
    · have HA := Lib.hid (askS_long (b := b) h12)
      have HVAL := Lib.hid (show VAL_CountSources xs b = .tuple #[.int .i64 0, .bool false] by unfold VAL_CountSources cntQ; rw [HA.out]; rfl)
      rw [HVAL.out]
      clear ho hd h
      go_enter Try.func14, Try.ntmps14
      go_wp2_with (go_at_call 37; refine (rvAsked_any _ _ _ _ _ H.out hl).mono ?_; rw [HA.out]; rintro e w1 ⟨rfl, rfl⟩)
      go_ret2
      exact ⟨rfl, Below.refl _ _⟩
  · have HA := Lib.hid (askS_no ho)
    have HVAL := Lib.hid (show VAL_CountSources xs b = .tuple #[.int .i64 0, .bool false] by unfold VAL_CountSources cntQ; rw [HA.out]; rfl)
    rw [HVAL.out]
    clear ho h
    go_enter Try.func14, Try.ntmps14
    go_wp2_with (go_at_call 37; refine (rvAsked_any _ _ _ _ _ H.out hl).mono ?_; rw [HA.out]; rintro e w1 ⟨rfl, rfl⟩)
    go_ret2
    exact ⟨rfl, Below.refl _ _⟩

end Go.Proofs.Ytamibonkbpppmaa
