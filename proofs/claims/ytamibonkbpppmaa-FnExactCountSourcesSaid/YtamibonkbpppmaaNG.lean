/-
  FirstSource: the model; CountSources and FirstSource: the program (written by wip/tools/gen_ng.py).
-/
import Derived.Test.YtamibonkbpppmaaNF
namespace Go.Proofs.Ytamibonkbpppmaa
open Go.RowKit
set_option linter.unusedVariables false
set_option linter.unusedSimpArgs false
set_option maxRecDepth 100000

theorem sW_nn (b : Int) (W : Nat) (V : Int) : 0 ≤ sW b W V := by
  unfold sW
  split
  · exact Int.le_refl 0
  · exact srcV_nn _ _ _ _

theorem fst_at {b : Int} {xs H : List Int} {k W : Nat} (hb : 2 ≤ b) (hk : k < 2) (hW : W = xs.length - 1 + k) (hW1 : 1 ≤ W) (h1 : 1 ≤ xs.length) (hc : cP b xs k = 0) (hs' : solF b W (vD b xs) = some H) (hn : ¬ cntH b W 1 H = 0) : fstS b xs = fstH b W 1 H ∧ 0 < cntS b xs := by
  have hsw := sW_some hs' hW1
  have hpos := cntH_nn b W 1 H
  have : k = 0 ∨ k = 1 := by omega
  rcases this with rfl | rfl
  · obtain rfl : W = xs.length - 1 := by omega
    have h2 := sW_nn b xs.length (vD b xs)
    refine ⟨?_, by unfold cntS; omega⟩
    unfold fstS
    rw [if_neg (by rw [hsw]; exact hn)]
    exact src_some hs' hn
  · obtain rfl : W = xs.length := by omega
    have h2 : sW b (xs.length - 1) (vD b xs) = 0 := hc
    refine ⟨?_, by unfold cntS; omega⟩
    unfold fstS
    rw [if_pos h2]
    exact src_some hs' hn

theorem spec_FirstSource (v : Value) (xs : List Int) (b : Int) (B : Nat) (w : World) (h : Rd w B v xs) (hl : xs.length ≤ 1048576) :
    Calls Try.prog 17 #[v, .int .i64 b] w fun e w' => ∃ u, e = .returned (.tuple #[u, .bool (OK_FirstSource xs b)]) ∧ Rd w' w.heap.size u (LF_FirstSource xs b) ∧ Below w.heap.size w w' := by
  have H := Lib.hid h
  obtain ⟨a, cap, rfl⟩ := h.sl.len
  rcases okR_cases b xs with ⟨ho, hd⟩ | ho
  · by_cases h12 : xs.length ≤ 12
    · have HA := Lib.hid (askS_yes ho h12)
      have HO := Lib.hid ho
      have H00 := Lib.hid (Dg.head0 ho)
      have hb := hd.b2
      have hb' := hd.b16
      have h1 := hd.l1
      have HX := Lib.hid hd.all
      clear hd ho
      obtain ⟨g, cap2, hv⟩ : ∃ g cap2, (Value.slice a xs.length cap) = .slice (some ⟨g, 0, none⟩) xs.length cap2 := by
        rcases h.cases with ⟨_, hx⟩ | ⟨g, cap2, hu, _⟩
        · exfalso; rw [hx] at h1; simp at h1
        · exact ⟨g, cap2, hu⟩
      rw [hv] at H ⊢
      clear h hv
      have HOK := Lib.hid (show OK_FirstSource xs b = decide (0 < cntS b xs) by unfold OK_FirstSource; rw [HA.out]; rfl)
      have HLF := Lib.hid (show LF_FirstSource xs b = if decide (0 < cntS b xs) = true then fstS b xs else [] by unfold LF_FirstSource; rw [HA.out]; rfl)
      rw [HOK.out, HLF.out]
      obtain ⟨L, hL⟩ : ∃ L, L = xs.length := ⟨_, rfl⟩
      have HL := Lib.hid hL
      rw [← hL] at h1 h12 hl ⊢
      obtain ⟨OKV, hOKV⟩ : ∃ q, q = decide (0 < cntS b xs) := ⟨_, rfl⟩
      obtain ⟨RL, hRL⟩ : ∃ l, l = if decide (0 < cntS b xs) = true then fstS b xs else [] := ⟨_, rfl⟩
      have HOKV := Lib.hid hOKV
      have HRL := Lib.hid hRL
      rw [← hRL, ← hOKV]
      clear hL hOKV hRL
      go_enter Try.func17, Try.ntmps17
      go_wp2_with (go_at_call 37; refine (rvAsked_any _ _ _ _ _ (by have h9 := H.out; rw [← HL.out] at h9; exact h9) (by rw [← HL.out]; exact hl)).mono ?_; rw [HA.out]; rintro e w1 ⟨rfl, rfl⟩)
      go_loopw [6] (fun y wr => ∃ k : Nat, k ≤ 2 ∧ y = .int .i64 ((L : Int) - 1 + (k : Int)) ∧ Hid (cP b xs k = 0) ∧ Below w.heap.size w wr) (fun y _ => ((L : Int) + 1 - intOf y).toNat)
      case atStart => exact ⟨0, by omega, by go_num, Lib.hid rfl, Below.refl _ _⟩
      case round =>
        obtain ⟨k, hk, rfl, HC0, hbl⟩ := hrel
        obtain ⟨wo, hwo⟩ : ∃ wo : World, wo = wr := ⟨_, rfl⟩
        rw [← hwo] at hbl ⊢
        clear hwo
        have HB := Lib.hid hbl
        clear hbl
        by_cases hlt : k < 2
        · have HN := Lib.hid (cP_next b xs k hlt (by rw [← HL.out]; exact h1))
          obtain ⟨W, hW⟩ : ∃ W, W = L - 1 + k := ⟨_, rfl⟩
          have hwi : (L : Int) - 1 + (k : Int) = (W : Int) := by omega
          have hW12 : W ≤ 12 := by omega
          have HWL := Lib.hid (show W = xs.length ∨ W + 1 = xs.length by rw [← HL.out]; omega)
          have HWX := Lib.hid (show W = xs.length - 1 + k by rw [← HL.out]; exact hW)
          have hle : (W : Int) ≤ (L : Int) := by omega
          have hw2 : (W : Int) + 1 = (L : Int) - 1 + ((k + 1 : Nat) : Int) := by omega
          have HW2 := Lib.hid hw2
          rw [hwi]
          clear hW hwi hw2
          by_cases hW0 : W = 0
          · subst hW0
            have HZ := Lib.hid (show cP b xs (k + 1) = 0 by rw [HN.out, HC0.out, ← HWX.out]; simp [sW])
            go_wp2
            go_roundw
            case rel => exact ⟨k + 1, by omega, by rw [← HW2.out]; simp, HZ, HB.out⟩
            case measure => (simp [intOf]; try omega)
          · have hWb : ((W : Int) == 0) = false := beq_no (by omega)
            have hW1 : 1 ≤ W := by omega
            clear hW0
            go_wp2_with fail
            rw [HL.out]
            refine (rvWays_c g cap2 xs b W _ _ (H.out.keep HB.out) HWL.out hW1 (by rw [← HL.out]; exact h12) hb hb' HX.out H00.out).mono ?_
            rw [← HL.out]
            rintro e w2 ⟨v2, q2, rfl, hf, hb2⟩
            have HB2 := Lib.hid (Below.step HB.out HB.out.size hb2)
            have HK2 := hb2.size
            clear hb2
            rcases hf with ⟨hs, a2, d2, rfl⟩ | ⟨Hh, gv, cv, gu, cu, hs, hrh, rfl, hcell, hrd⟩
            · have HZ := Lib.hid (show cP b xs (k + 1) = 0 by rw [HN.out, HC0.out, ← HWX.out, sW_none hs]; rfl)
              clear hs
              go_wp2
              go_loop [7, 37] (fun x y => x = .slice none 0 0 ∧ y = .int .i64 0) (fun _ _ => 0)
              case atStart => exact ⟨rfl, rfl⟩
              case round =>
                obtain ⟨rfl, rfl⟩ := hrel
                go_wp2
                go_roundw
                case rel => exact ⟨k + 1, by omega, by rw [← HW2.out], HZ, HB2.out⟩
                case measure => (simp [intOf]; try omega)
            · obtain ⟨C, hC⟩ : ∃ C, C = cntH b W 1 Hh := ⟨_, rfl⟩
              have hsw := sW_some hs hW1
              have hsb := sW_bd hb hb' hW12 (vD b xs)
              rw [hsw, ← hC] at hsb
              obtain ⟨C0, C1⟩ := hsb
              have HC := Lib.hid hC
              have HRH := Lib.hid hrh
              have HRD := Lib.hid hrd
              by_cases hcz : C = 0
              · have HZ := Lib.hid (show cP b xs (k + 1) = 0 by rw [HN.out, HC0.out, ← HWX.out, hsw, ← hC, hcz]; rfl)
                have hczb : (C == 0) = true := beq_yes hcz
                clear hs hsw hC hrh hrd hcz
                go_wp2
                go_loop [7, 37] (fun x y => x = .slice none 0 0 ∧ ∃ t : Nat, t ≤ 1 ∧ y = .int .i64 (t : Int)) (fun _ y => (1 - intOf y).toNat)
                case atStart => exact ⟨rfl, 0, by omega, rfl⟩
                case round =>
                  obtain ⟨rfl, t, ht, rfl⟩ := hrel
                  by_cases ht0 : t = 0
                  · subst ht0
                    go_wp2_with (go_at_call 39; go_loud (refine (rvCount_any gu cu b W Hh _ _ HRD.out HRH.out hW1 hW12 hb hb').mono ?_; rw [← HC.out]; rintro e w3 ⟨rfl, rfl⟩))
                    go_round
                    case rel => first | exact ⟨rfl, 1, by omega, by go_num⟩ | exact ⟨1, by omega, by go_num⟩ | (simp; done)
                    case measure => simp [intOf]
                  · obtain rfl : t = 1 := by omega
                    go_wp2
                    go_roundw
                    case rel => exact ⟨k + 1, by omega, by rw [← HW2.out], HZ, HB2.out⟩
                    case measure => (simp [intOf]; try omega)
              · have hczb : (C == 0) = false := beq_no hcz
                obtain ⟨hfs, hcs⟩ := fst_at hb hlt HWX.out hW1 (by rw [← HL.out]; exact h1) HC0.out hs (by rw [← hC]; exact hcz)
                have HQ := Lib.hid (show OKV = true by rw [HOKV.out]; exact decide_eq_true hcs)
                have HR := Lib.hid (show RL = fstH b W 1 Hh by rw [HRL.out, decide_eq_true hcs, if_pos rfl, hfs])
                clear hs hsw hC hrh hrd hcz hfs hcs
                have hsz2 := HB2.out.size
                go_wp2
                go_loopw [7, 37] (fun x y wr => (x = .slice none 0 0 ∧ y = .int .i64 0 ∧ wr = w2) ∨ (∃ g2 : Nat, x = .slice (some ⟨g2, 0, none⟩) W W ∧ y = .int .i64 1 ∧ Rd wr w.heap.size (.slice (some ⟨g2, 0, none⟩) W W) (fstH b W 1 Hh) ∧ Below w.heap.size w wr)) (fun _ y _ => (1 - intOf y).toNat)
                case atStart => exact .inl ⟨rfl, rfl, rfl⟩
                case round =>
                  rcases hrel with ⟨rfl, rfl, rfl⟩ | ⟨g2, rfl, rfl, hr3, hb3⟩
                  · go_wp2_with (first | (go_at_call 39; go_loud (refine (rvCount_any gu cu b W Hh _ _ HRD.out HRH.out hW1 hW12 hb hb').mono ?_; rw [← HC.out]; rintro e w3 ⟨rfl, rfl⟩)) | (go_at_call 42; go_loud (refine (rvFirst_any gu cu b W Hh _ _ HRD.out HRH.out hW1 hW12 hb hb').mono ?_; rintro e w3 ⟨g3, rfl, hr3, hb3⟩; have HR3 := Lib.hid (hr3.mono hsz2); have HB3 := Lib.hid (Below.step HB2.out hsz2 hb3); clear hr3 hb3)))
                    go_roundw
                    case rel => exact .inr ⟨g3, rfl, by go_num, HR3.out, HB3.out⟩
                    case measure => simp [intOf]
                  · have HR3 := Lib.hid hr3
                    have HB3 := Lib.hid hb3
                    clear hr3 hb3
                    have hWpos : (0 : Int) < (W : Int) := by omega
                    go_wp2
                    go_ret2
                    exact ⟨_, by rw [HQ.out]; rfl, by rw [HR.out]; exact HR3.out, HB3.out⟩
        · obtain rfl : k = 2 := by omega
          have HZ := Lib.hid (show cntS b xs = 0 from HC0.out)
          have HQ := Lib.hid (show OKV = false by rw [HOKV.out, HZ.out]; rfl)
          have HR := Lib.hid (show RL = [] by rw [HRL.out, HZ.out]; rfl)
          go_wp2
          go_ret2
          exact ⟨_, by rw [HQ.out]; rfl, by rw [HR.out]; exact Rd.nil _ _, HB.out⟩
    · have HA := Lib.hid (askS_long (b := b) h12)
      have HVAL := Lib.hid (show OK_FirstSource xs b = false by unfold OK_FirstSource; rw [HA.out]; rfl)
      have HLF := Lib.hid (show LF_FirstSource xs b = [] by unfold LF_FirstSource; rw [HA.out]; rfl)
      rw [HVAL.out, HLF.out]
      clear ho hd h
      go_enter Try.func17, Try.ntmps17
      go_wp2_with (go_at_call 37; refine (rvAsked_any _ _ _ _ _ H.out hl).mono ?_; rw [HA.out]; rintro e w1 ⟨rfl, rfl⟩)
      go_ret2
      exact ⟨_, rfl, Rd.nil _ _, Below.refl _ _⟩
  · have HA := Lib.hid (askS_no ho)
    have HVAL := Lib.hid (show OK_FirstSource xs b = false by unfold OK_FirstSource; rw [HA.out]; rfl)
    have HLF := Lib.hid (show LF_FirstSource xs b = [] by unfold LF_FirstSource; rw [HA.out]; rfl)
    rw [HVAL.out, HLF.out]
    clear ho h
    go_enter Try.func17, Try.ntmps17
    go_wp2_with (go_at_call 37; refine (rvAsked_any _ _ _ _ _ H.out hl).mono ?_; rw [HA.out]; rintro e w1 ⟨rfl, rfl⟩)
    go_ret2
    exact ⟨_, rfl, Rd.nil _ _, Below.refl _ _⟩

theorem cnt_nn {b : Int} (hb : 2 ≤ b) (hb' : b ≤ 16) {xs : List Int} (hl : xs.length ≤ 12) : 0 ≤ cntS b xs ∧ cntS b xs ≤ 562949953421312 := cP_bd hb hb' xs hl 2
theorem fst_nil {b : Int} (hb : 2 ≤ b) (hb' : b ≤ 16) {xs : List Int} (h1 : 1 ≤ xs.length) (hl : xs.length ≤ 12) (h : ¬ 0 < cntS b xs) : fstS b xs = [] := by
  have e1 := sW_bd hb hb' (show xs.length - 1 ≤ 12 by omega) (vD b xs)
  have e2 := sW_bd hb hb' hl (vD b xs)
  unfold cntS at h
  have z1 : sW b (xs.length - 1) (vD b xs) = 0 := by omega
  have z2 : sW b xs.length (vD b xs) = 0 := by omega
  unfold fstS
  rw [if_pos z1]
  unfold sW at z2
  rw [if_neg (by omega)] at z2
  exact srcV_nil z2

theorem impl_CountSources (v : Value) (xs : List Int) (b : Int) (B : Nat) (w : World) (h : Rd w B v xs) (hl : xs.length ≤ 1048576) :
    Calls Try.prog 16 #[v, .int .i64 b] w fun e w' => e = .returned (VAL_CountSources xs b) ∧ Below w.heap.size w w' := by
  have H := Lib.hid h
  obtain ⟨a, cap, rfl⟩ := h.sl.len
  rcases okR_cases b xs with ⟨ho, hd⟩ | ho
  · by_cases h12 : xs.length ≤ 12
    · have HA := Lib.hid (askS_yes ho h12)
      have HO := Lib.hid ho
      have hb := hd.b2
      have hb' := hd.b16
      have h1 := hd.l1
      have HX := Lib.hid hd.all
      have hd12 : decide ((12 : Int) < (xs.length : Int)) = false := decide_eq_false (by omega)
      have hi12 : ¬ (12 : Int) < (xs.length : Int) := by omega
      clear hd ho h
      have HVAL := Lib.hid (show VAL_CountSources xs b = .tuple #[.int .i64 (cntS b xs), .bool true] by unfold VAL_CountSources cntQ; rw [HA.out, if_pos rfl])
      rw [HVAL.out]
      obtain ⟨CN, hCN⟩ : ∃ CN, CN = cntS b xs := ⟨_, rfl⟩
      have HCN := Lib.hid hCN
      rw [← hCN]
      clear hCN
      have hfd0 : ∀ (x y : Value) (w' : World), (Instr.field 66 (.agg #[x, y]) 0).run Try.prog w' = .ok x w' := fun _ _ _ => by kernel_rfl
      have hfd1 : ∀ (x y : Value) (w' : World), (Instr.field 66 (.agg #[x, y]) 1).run Try.prog w' = .ok y w' := fun _ _ _ => by kernel_rfl
      go_enter Try.func16, Try.ntmps16
      go_wp2_with fail
      refine (long_yes _ _ _ _ _ H.out hl HO.out).mono ?_
      rintro e w1 ⟨g1, cap1, rfl, hr, hb1⟩
      have R1 := Lib.hid hr
      have B1 := Lib.hid hb1
      have HAL := Lib.hid (alloc_below w1 (.cells #[.slice (some ⟨g1, 0, none⟩) xs.length cap1, .int .i64 b] 62))
      have R2 := Lib.hid (R1.out.keep HAL.out)
      have B2 := Lib.hid (Below.step B1.out B1.out.size HAL.out)
      clear hr hb1
      go_wp2_with (go_at_call 41; go_loud (refine (findSources_any g1 cap1 xs b _ _ R2.out HX.out hb hb' h1 h12).mono ?_; rintro e w2 ⟨u2, rfl, hr2, hb2⟩; obtain ⟨a2, d2, rfl⟩ := hr2.shape'; have R3 := Lib.hid (hr2.mono B2.out.size); have B3 := Lib.hid (Below.step B2.out B2.out.size hb2); clear hr2 hb2))
      go_ret2
      exact ⟨by rw [HCN.out]; rfl, B3.out⟩
    · have HA := Lib.hid (askS_long (b := b) h12)
      have HVAL := Lib.hid (show VAL_CountSources xs b = .tuple #[.int .i64 0, .bool false] by unfold VAL_CountSources cntQ; rw [HA.out]; rfl)
      rw [HVAL.out]
      have hd12 : decide ((12 : Int) < (xs.length : Int)) = true := decide_eq_true (by omega)
      have h13 : (12 : Int) < (xs.length : Int) := by omega
      clear hd h h12
      have HO := Lib.hid ho
      clear ho
      go_enter Try.func16, Try.ntmps16
      go_wp2_with fail
      refine (long_yes _ _ _ _ _ H.out hl HO.out).mono ?_
      rintro e w1 ⟨g1, cap1, rfl, hr, hb1⟩
      have B1 := Lib.hid hb1
      have HAL := Lib.hid (alloc_below w1 (.cells #[.slice (some ⟨g1, 0, none⟩) xs.length cap1, .int .i64 b] 62))
      have B2 := Lib.hid (Below.step B1.out B1.out.size HAL.out)
      clear hr hb1
      go_wp2
      go_ret2
      exact ⟨rfl, B2.out⟩
  · have HA := Lib.hid (askS_no ho)
    have HVAL := Lib.hid (show VAL_CountSources xs b = .tuple #[.int .i64 0, .bool false] by unfold VAL_CountSources cntQ; rw [HA.out]; rfl)
    rw [HVAL.out]
    have HO := Lib.hid ho
    clear ho h
    go_enter Try.func16, Try.ntmps16
    go_wp2_with fail
    refine (long_no _ _ _ _ _ H.out hl HO.out).mono ?_
    rintro e w1 ⟨rfl, hb1⟩
    have B1 := Lib.hid hb1
    clear hb1
    have HAL := Lib.hid (alloc_below w1 (.cells #[.slice none 0 0, .int .i64 0] 62))
    have B2 := Lib.hid (Below.step B1.out B1.out.size HAL.out)
    go_wp2
    go_ret2
    exact ⟨rfl, B2.out⟩

theorem impl_FirstSource (v : Value) (xs : List Int) (b : Int) (B : Nat) (w : World) (h : Rd w B v xs) (hl : xs.length ≤ 1048576) :
    Calls Try.prog 18 #[v, .int .i64 b] w fun e w' => ∃ u, e = .returned (.tuple #[u, .bool (OK_FirstSource xs b)]) ∧ Rd w' w.heap.size u (LF_FirstSource xs b) ∧ Below w.heap.size w w' := by
  have H := Lib.hid h
  obtain ⟨a, cap, rfl⟩ := h.sl.len
  rcases okR_cases b xs with ⟨ho, hd⟩ | ho
  · by_cases h12 : xs.length ≤ 12
    · have HA := Lib.hid (askS_yes ho h12)
      have HO := Lib.hid ho
      have hb := hd.b2
      have hb' := hd.b16
      have h1 := hd.l1
      have HX := Lib.hid hd.all
      have hd12 : decide ((12 : Int) < (xs.length : Int)) = false := decide_eq_false (by omega)
      have hi12 : ¬ (12 : Int) < (xs.length : Int) := by omega
      clear hd ho h
      have HOK := Lib.hid (show OK_FirstSource xs b = decide (0 < cntS b xs) by unfold OK_FirstSource; rw [HA.out]; rfl)
      have HFN := fst_nil hb hb' h1 h12
      have HLF := Lib.hid (show LF_FirstSource xs b = fstS b xs by
        unfold LF_FirstSource
        rw [HA.out, Bool.true_and]
        by_cases e : 0 < cntS b xs
        · rw [decide_eq_true e, if_pos rfl]
        · rw [decide_eq_false e, if_neg (by simp), HFN e])
      rw [HOK.out]
      clear HFN
      obtain ⟨CN, hCN⟩ : ∃ CN, CN = cntS b xs := ⟨_, rfl⟩
      have HCN := Lib.hid hCN
      rw [← hCN]
      clear hCN
      have hfd0 : ∀ (x y : Value) (w' : World), (Instr.field 66 (.agg #[x, y]) 0).run Try.prog w' = .ok x w' := fun _ _ _ => by kernel_rfl
      have hfd1 : ∀ (x y : Value) (w' : World), (Instr.field 66 (.agg #[x, y]) 1).run Try.prog w' = .ok y w' := fun _ _ _ => by kernel_rfl
      go_enter Try.func18, Try.ntmps18
      go_wp2_with fail
      refine (long_yes _ _ _ _ _ H.out hl HO.out).mono ?_
      rintro e w1 ⟨g1, cap1, rfl, hr, hb1⟩
      have R1 := Lib.hid hr
      have B1 := Lib.hid hb1
      have HAL := Lib.hid (alloc_below w1 (.cells #[.slice (some ⟨g1, 0, none⟩) xs.length cap1, .int .i64 b] 62))
      have R2 := Lib.hid (R1.out.keep HAL.out)
      have B2 := Lib.hid (Below.step B1.out B1.out.size HAL.out)
      clear hr hb1
      go_wp2_with (go_at_call 41; go_loud (refine (findSources_any g1 cap1 xs b _ _ R2.out HX.out hb hb' h1 h12).mono ?_; rintro e w2 ⟨u2, rfl, hr2, hb2⟩; obtain ⟨a2, d2, rfl⟩ := hr2.shape'; have R3 := Lib.hid (hr2.mono B2.out.size); have B3 := Lib.hid (Below.step B2.out B2.out.size hb2); clear hr2 hb2))
      go_quiet (fail)
      go_wp2
      go_ret2
      exact ⟨_, by rw [HCN.out]; rfl, by rw [HLF.out]; exact (R3.out.alloc _).drewN _, below_dN (B3.out.alloc B3.out.size _) _⟩
    · have HA := Lib.hid (askS_long (b := b) h12)
      have HVAL := Lib.hid (show OK_FirstSource xs b = false by unfold OK_FirstSource; rw [HA.out]; rfl)
      have HLF := Lib.hid (show LF_FirstSource xs b = [] by unfold LF_FirstSource; rw [HA.out]; rfl)
      rw [HVAL.out, HLF.out]
      have hd12 : decide ((12 : Int) < (xs.length : Int)) = true := decide_eq_true (by omega)
      have h13 : (12 : Int) < (xs.length : Int) := by omega
      clear hd h h12
      have HO := Lib.hid ho
      clear ho
      go_enter Try.func18, Try.ntmps18
      go_wp2_with fail
      refine (long_yes _ _ _ _ _ H.out hl HO.out).mono ?_
      rintro e w1 ⟨g1, cap1, rfl, hr, hb1⟩
      have B1 := Lib.hid hb1
      have HAL := Lib.hid (alloc_below w1 (.cells #[.slice (some ⟨g1, 0, none⟩) xs.length cap1, .int .i64 b] 62))
      have B2 := Lib.hid (Below.step B1.out B1.out.size HAL.out)
      clear hr hb1
      go_wp2
      go_ret2
      exact ⟨_, rfl, Rd.nil _ _, B2.out⟩
  · have HA := Lib.hid (askS_no ho)
    have HVAL := Lib.hid (show OK_FirstSource xs b = false by unfold OK_FirstSource; rw [HA.out]; rfl)
    have HLF := Lib.hid (show LF_FirstSource xs b = [] by unfold LF_FirstSource; rw [HA.out]; rfl)
    rw [HVAL.out, HLF.out]
    have HO := Lib.hid ho
    clear ho h
    go_enter Try.func18, Try.ntmps18
    go_wp2_with fail
    refine (long_no _ _ _ _ _ H.out hl HO.out).mono ?_
    rintro e w1 ⟨rfl, hb1⟩
    have B1 := Lib.hid hb1
    clear hb1
    have HAL := Lib.hid (alloc_below w1 (.cells #[.slice none 0 0, .int .i64 0] 62))
    have B2 := Lib.hid (Below.step B1.out B1.out.size HAL.out)
    go_wp2
    go_ret2
    exact ⟨_, rfl, Rd.nil _ _, B2.out⟩

end Go.Proofs.Ytamibonkbpppmaa
