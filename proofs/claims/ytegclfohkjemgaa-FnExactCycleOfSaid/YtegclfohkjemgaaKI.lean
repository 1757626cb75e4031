/-
  Answers of CycleOf.
-/
import Derived.Test.YtegclfohkjemgaaKG
namespace Go.Proofs.Ytegclfohkjemgaa
open Go.RowKit
set_option linter.unusedVariables false
set_option linter.unusedSimpArgs false
set_option maxRecDepth 100000

theorem ask_CycleOf (v : Value) (xs : List Int) (b : Int) (B : Nat) (w : World) (h : Rd w B v xs) (hl : xs.length ≤ 2000000) :
    Calls Try.prog 67 #[v, .int .i64 b, .func (Fn.func 72) #[] #[]] w fun e w' => ∃ u vs, e = .returned (.tuple #[u, .bool (okW xs b)]) ∧ LLi w' w.heap.size u vs (if okW xs b = true then cyL (fR xs b) (nT xs b) (nL xs b - nT xs b) b else []) ∧ Below w.heap.size w w' := by
  have H := Lib.hid h
  obtain ⟨a, cap, rfl⟩ := h.sl.len
  clear h
  have HAL := Lib.hid (alloc_below w (.cells #[.int .i64 (xs.length : Int), .int .i64 b] 57))
  have HC0 := Lib.hid (show (w.alloc (.cells #[.int .i64 (xs.length : Int), .int .i64 b] 57)).cell? ⟨w.heap.size, 0, none⟩ = some (.int .i64 (xs.length : Int)) by simp [go_sem])
  have HC1 := Lib.hid (show (w.alloc (.cells #[.int .i64 (xs.length : Int), .int .i64 b] 57)).cell? ⟨w.heap.size, 1, none⟩ = some (.int .i64 b) by simp [go_sem])
  have H1 := Lib.hid (H.out.keep HAL.out)
  by_cases hS : okS (xs.length : Int) b = true
  · obtain ⟨⟨l1, l8⟩, b2, b16⟩ := okS_iff.1 hS
    by_cases hA : allIn 0 (b - 1) xs = true
    · have HO := Lib.hid (show okW xs b = true by unfold okW; rw [hS, hA]; rfl)
      have HX := Lib.hid ((allIn_iff _ _ _).1 hA)
      rw [HO.out, if_pos rfl]
      have hvn := vN_bd b2 HX.out
      have HRUN := Lib.hid (fun w' => cycleFrom_any xs.length (b - 1).toNat (vN b xs) b w' (by omega) (by omega) (by omega) (by omega) (by omega) hvn.2)
      rw [show wd b xs.length ((vN b xs : Nat) : Int) = xs from fR_zero b2 HX.out] at HRUN
      obtain ⟨KK, hKK⟩ : ∃ KK, KK = cyL (fR xs b) (nT xs b) (nL xs b - nT xs b) b := ⟨_, rfl⟩
      have hR2 := HRUN.out
      change ∀ w', Calls _ _ _ _ (fun e w'' => ∃ u vs, e = .returned u ∧ LLi w'' w'.heap.size u vs (cyL (fR xs b) (nT xs b) (nL xs b - nT xs b) b) ∧ Below w'.heap.size w' w'') at hR2
      rw [← hKK] at hR2
      rw [← hKK]
      have HRU := Lib.hid hR2
      clear hvn HRUN hR2 hKK
      go_enter Try.func67, Try.ntmps67
      go_wp2_with fail
      refine (isValid_any _ _ _).mono ?_
      rw [hS]
      rintro e w1 ⟨rfl, hb1⟩
      have B1 := Lib.hid (Below.step HAL.out HAL.out.size hb1)
      have c0 := Below.keeps_cell hb1 HC0.out
      have c1 := Below.keeps_cell hb1 HC1.out
      have H2 := Lib.hid (H1.out.keep hb1)
      clear hb1
      go_wp2_with fail
      refine (areDigits_sh _ xs _ _ _ H2.out.sl hl).mono ?_
      rw [hA]
      rintro e w2 ⟨rfl, hb2⟩
      have B2 := Lib.hid (Below.step B1.out B1.out.size hb2)
      have d0 := Below.keeps_cell hb2 c0
      have d1 := Below.keeps_cell hb2 c1
      have H3 := Lib.hid (H2.out.keep hb2)
      have HHN := Lib.hid (heap_alloc_new w2 (.cells #[.int .i64 0, .int .i64 0, .int .i64 0, .int .i64 0, .int .i64 0, .int .i64 0, .int .i64 0, .int .i64 0] 63))
      have HA3 := Lib.hid (alloc_below w2 (.cells #[.int .i64 0, .int .i64 0, .int .i64 0, .int .i64 0, .int .i64 0, .int .i64 0, .int .i64 0, .int .i64 0] 63))
      have H4 := Lib.hid (H3.out.keep HA3.out)
      have g0 := Below.keeps_cell HA3.out d0
      have g1 := Below.keeps_cell HA3.out d1
      have HB3 := Lib.hid (Below.step B2.out B2.out.size HA3.out)
      have HSR := Lib.hid (show 0 < (xs.map (Value.int .i64)).length → ∃ ad, a = some ad ∧ ∀ j q, (xs.map (Value.int .i64))[j]? = some q → (w2.alloc (.cells #[.int .i64 0, .int .i64 0, .int .i64 0, .int .i64 0, .int .i64 0, .int .i64 0, .int .i64 0, .int .i64 0] 63)).cell? (ad.add j) = some q from fun hp => by
        rcases H4.out.cases with ⟨_, hx⟩ | ⟨ga, ca, hu, _, _, _, _, hc, _⟩
        · rw [hx] at hp; simp at hp
        simp only [Value.slice.injEq] at hu
        obtain ⟨rfl, _, _⟩ := hu
        refine ⟨⟨ga, 0, none⟩, rfl, fun j q hq => ?_⟩
        have hj : j < xs.length := by have := (List.getElem?_eq_some_iff.1 hq).1; simpa using this
        rw [addr_add, Nat.zero_add, hc j hj, ← hq]
        simp [hj])
      have hsl := fun w g => slAll w g
      have HN := Lib.hid (show (xs.map (Value.int .i64)).length = Nat.min xs.length 8 by rw [List.length_map]; exact (Nat.min_eq_left (by omega)).symm)
      clear hb2 c0 c1
      have HI := Lib.hid (arr_dw xs (by omega))
      have HSP := Lib.hid (splice_dw xs (by omega))
      have h8 : xs.length ≤ 8 := by omega
      go_wp2_with (first
        | (refine wpList_copy_splice rfl (.tmp 25) (.tmp 26) 22 22 rfl 3 Try.underlying22 (by kernel_rfl) (some ⟨w2.heap.size, 0, none⟩) a 8 8 xs.length cap rfl rfl w2.heap.size 0 [.int .i64 0, .int .i64 0, .int .i64 0, .int .i64 0, .int .i64 0, .int .i64 0, .int .i64 0, .int .i64 0] 63 HHN.out (xs.map (.int .i64)) HN.out (fun hp => ⟨rfl, HSR.out hp⟩) (by simp; omega) (by intro q hq; obtain ⟨x, _, rfl⟩ := List.mem_map.1 hq; rfl) w2.heap.size w2 HA3.out (Nat.le_refl _) ?_; intro w3 hrow hb3; have HROW := Lib.hid (show w3.heap[w2.heap.size]? = some (.cells (dw xs) 63 (0, 0)) by rw [← HSP.out]; exact hrow.out); have B3 := Lib.hid (Below.step B2.out B2.out.size hb3); have x0 := Below.keeps_cell hb3 d0; have x1 := Below.keeps_cell hb3 d1; clear hrow hb3 g0 g1 d0 d1)
        | (refine wpList_load_row rfl 63 (.tmp 10) rfl w2.heap.size rfl _ (dw xs) _ _ HROW.out arr8 rfl HI.out ?_)
        | (go_at_call 72; refine (HRU.out _).mono ?_; rintro e w4 ⟨u4, vs4, rfl, hr4, hb4⟩; have R4 := Lib.hid (hr4.mono B3.out.size); clear hr4; have B4 := Lib.hid (Below.step B3.out B3.out.size hb4); clear hb4))
      go_ret2
      exact ⟨u4, vs4, rfl, R4.out, B4.out⟩
    · have hA' : allIn 0 (b - 1) xs = false := by simpa using hA
      have HO := Lib.hid (show okW xs b = false by unfold okW; rw [hA']; exact Bool.and_false _)
      clear hA
      rw [HO.out, if_neg (by simp)]
      go_enter Try.func67, Try.ntmps67
      go_wp2_with fail
      refine (isValid_any _ _ _).mono ?_
      rw [hS]
      rintro e w1 ⟨rfl, hb1⟩
      have B1 := Lib.hid (Below.step HAL.out HAL.out.size hb1)
      have c0 := Below.keeps_cell hb1 HC0.out
      have c1 := Below.keeps_cell hb1 HC1.out
      have H2 := Lib.hid (H1.out.keep hb1)
      clear hb1
      go_wp2_with fail
      refine (areDigits_sh _ xs _ _ _ H2.out.sl hl).mono ?_
      rw [hA']
      rintro e w2 ⟨rfl, hb2⟩
      have B2 := Lib.hid (Below.step B1.out B1.out.size hb2)
      clear hb2
      go_wp2
      go_ret2
      exact ⟨_, [], rfl, LLi.nil _ _, B2.out⟩
  · have hS' : okS (xs.length : Int) b = false := by simpa using hS
    have HO := Lib.hid (show okW xs b = false by unfold okW; rw [hS']; rfl)
    clear hS
    rw [HO.out, if_neg (by simp)]
    go_enter Try.func67, Try.ntmps67
    go_wp2_with fail
    refine (isValid_any _ _ _).mono ?_
    rw [hS']
    rintro e w1 ⟨rfl, hb1⟩
    have B1 := Lib.hid (Below.step HAL.out HAL.out.size hb1)
    clear hb1
    go_wp2
    go_ret2
    exact ⟨_, [], rfl, LLi.nil _ _, B1.out⟩

abbrev OK_CycleOf (xs : List Int) (b : Int) : Bool := okW xs b
def LF_CycleOf (xs : List Int) (b : Int) : List (List Int) := if okW xs b = true then cyL (fR xs b) (nT xs b) (nL xs b - nT xs b) b else []
theorem impl_CycleOf (v : Value) (xs : List Int) (b : Int) (B : Nat) (w : World) (h : Rd w B v xs) (hl : xs.length ≤ 1048576) :
    Calls Try.prog 34 #[v, .int .i64 b] w fun e w' => ∃ u vs, e = .returned (.tuple #[u, .bool (OK_CycleOf xs b)]) ∧ LLi w' w.heap.size u vs (LF_CycleOf xs b) ∧ Below w.heap.size w w' := by
  have H := Lib.hid h
  obtain ⟨a, cap, rfl⟩ := h.sl.len
  clear h
  have HV := Lib.hid (show LF_CycleOf xs b = (if okW xs b = true then cyL (fR xs b) (nT xs b) (nL xs b - nT xs b) b else []) from rfl)
  rw [HV.out]
  obtain ⟨L, hL⟩ : ∃ L, L = (if okW xs b = true then cyL (fR xs b) (nT xs b) (nL xs b - nT xs b) b else []) := ⟨_, rfl⟩
  have HA := Lib.hid (fun (u : Value) (w' : World) (h : Rd w' B u xs) => ask_CycleOf u xs b B w' h (by omega))
  rw [← hL] at HA
  rw [← hL]
  clear hL
  go_enter Try.func34, Try.ntmps34
  go_wp2_with fail
  refine (HA.out _ _ H.out).mono ?_
  rintro e w1 ⟨u, vs, rfl, hr, hb1⟩
  have R1 := Lib.hid hr
  have B1 := Lib.hid hb1
  clear hr hb1
  go_wp2
  go_ret2
  exact ⟨u, vs, rfl, R1.out, B1.out⟩

theorem spec_CycleOf (v : Value) (xs : List Int) (b : Int) (B : Nat) (w : World) (h : Rd w B v xs) (hl : xs.length ≤ 1048576) :
    Calls Try.prog 33 #[v, .int .i64 b] w fun e w' => ∃ u vs, e = .returned (.tuple #[u, .bool (OK_CycleOf xs b)]) ∧ LLi w' w.heap.size u vs (LF_CycleOf xs b) ∧ Below w.heap.size w w' := by
  have H := Lib.hid h
  obtain ⟨a, cap, rfl⟩ := h.sl.len
  clear h
  have HV := Lib.hid (show LF_CycleOf xs b = (if okW xs b = true then cyL (fR xs b) (nT xs b) (nL xs b - nT xs b) b else []) from rfl)
  rw [HV.out]
  rcases okW_cases xs b with ⟨hq, l1, l8, b2, b16, hx⟩ | hq
  · rw [OK_CycleOf, hq, if_pos rfl]
    have HRN := Lib.hid (rn_word b2 b16 l8 hx)
    have HF0 := Lib.hid (fR_zero b2 hx)
    have hLb := HRN.out.lenL
    have hTb := HRN.out.tl
    have HGR := Lib.hid (fun (u : Value) (w' : World) (h : Rd w' B u xs) => gpCycle_any u (fR xs b) (nL xs b) (nT xs b) _ b B w' (by rw [HF0.out]; exact h) HRN.out b2 b16 l8)
    obtain ⟨KK, hKK⟩ : ∃ KK, KK = cyL (fR xs b) (nT xs b) (nL xs b - nT xs b) b := ⟨_, rfl⟩
    rw [← hKK] at HGR
    rw [← hKK]
    clear hKK
    clear hx HRN HV
    go_enter Try.func33, Try.ntmps33
    go_wp2_with (first | (go_at_call 52; refine (gpWord_any _ xs b _ _ H.out (by omega)).mono ?_; rw [hq]; rintro e w1 ⟨rfl, rfl⟩) | (go_at_call 71; refine (HGR.out _ _ H.out).mono ?_; rintro e w1 ⟨u, vs, rfl, hr, hb1⟩; have R1 := Lib.hid hr; have B1 := Lib.hid hb1; clear hr hb1))
    go_ret2
    exact ⟨_, vs, rfl, R1.out, B1.out⟩
  · rw [OK_CycleOf, hq, if_neg (by simp)]
    go_enter Try.func33, Try.ntmps33
    go_wp2_with (go_at_call 52; refine (gpWord_any _ xs b _ _ H.out (by omega)).mono ?_; rw [hq]; rintro e w1 ⟨rfl, rfl⟩)
    go_ret2
    exact ⟨_, [], rfl, LLi.nil _ _, Below.refl _ _⟩

theorem LF_CycleOf_bd (xs : List Int) (b : Int) : (LF_CycleOf xs b).length ≤ 40000 ∧ ∀ i, (lsZ (LF_CycleOf xs b) i).length ≤ 40000 := by
  unfold LF_CycleOf
  rcases okW_cases xs b with ⟨hq, l1, l8, b2, b16, hx⟩ | hq
  · rw [hq, if_pos rfl]
    have HRN := rn_word b2 b16 l8 hx
    have hLb := HRN.lenL
    have hTb := HRN.tl
    refine ⟨by unfold cyL; rw [rls_len]; exact Nat.le_trans (Nat.sub_le _ _) (Nat.le_trans hLb (by omega)), lsZ_len (fun l hl => ?_)⟩
    obtain ⟨j, _, rfl⟩ := rls_mem hl
    unfold cyF
    rw [HRN.len]; omega
  · rw [hq, if_neg (by simp)]; exact ⟨by simp, fun i => by simp [lsZ]⟩

end Go.Proofs.Ytegclfohkjemgaa
