/-
  The program's answer of TailOf.
-/
import Derived.Test.YtegclfohkjemgaaJZ
namespace Go.Proofs.Ytegclfohkjemgaa
open Go.RowKit
set_option linter.unusedVariables false
set_option linter.unusedSimpArgs false
set_option maxRecDepth 100000

set_option maxHeartbeats 1000000 in
theorem ask_run (v : Value) (xs : List Int) (b : Int) (B : Nat) (w : World) (h : Rd w B v xs) (hl : xs.length ≤ 2000000) (TT LL : Nat) (hT : TT = if okW xs b = true then nT xs b else 0) (hL : LL = if okW xs b = true then nL xs b - nT xs b else 0) :
    Calls Try.prog 69 #[v, .int .i64 b, .func (Fn.func 70) #[] #[]] w fun e w' => ∃ a1 c1 a2 c2, e = .returned (.tuple #[.agg #[.slice a1 TT c1, .slice a2 LL c2], .bool (okW xs b)]) ∧ Below w.heap.size w w' := by
  have H := Lib.hid h
  obtain ⟨a, cap, rfl⟩ := h.sl.len
  clear h
  obtain ⟨w0, hw0⟩ : ∃ w0, w0 = w.alloc (.cells #[.slice none 0 0, .slice none 0 0] 73) := ⟨_, rfl⟩
  have HZ0 := Lib.hid (show w0.heap.size = w.heap.size + 1 by rw [hw0]; simp)
  have HB0 := Lib.hid (show Below w.heap.size w w0 by rw [hw0]; exact alloc_below w _)
  have hrow : Rg 73 w0 w.heap.size (.slice (some ⟨w.heap.size, 0, none⟩) 2 2) [.slice none 0 0, .slice none 0 0] := by
    rw [hw0]
    exact World.ownsRow_lit (e := 73) (size := 1) (base := w.heap.size) w #[.slice none 0 0, .slice none 0 0] 2 (Nat.le_refl _) (by unfold maxLen; omega) rfl
  have HRW := Lib.hid hrow
  have HAL := Lib.hid (alloc_below w0 (.cells #[.int .i64 (xs.length : Int), .int .i64 b] 57))
  have HC0 := Lib.hid (show (w0.alloc (.cells #[.int .i64 (xs.length : Int), .int .i64 b] 57)).cell? ⟨w0.heap.size, 0, none⟩ = some (.int .i64 (xs.length : Int)) by simp [go_sem])
  have HC1 := Lib.hid (show (w0.alloc (.cells #[.int .i64 (xs.length : Int), .int .i64 b] 57)).cell? ⟨w0.heap.size, 1, none⟩ = some (.int .i64 b) by simp [go_sem])
  have H1 := Lib.hid ((H.out.keep HB0.out).keep HAL.out)
  have HBA := Lib.hid (Below.step HB0.out HB0.out.size HAL.out)
  have HRA := Lib.hid (HRW.out.keep HAL.out)
  rw [HZ0.out] at HC0 HC1
  clear hrow
  by_cases hS : okS (xs.length : Int) b = true
  · obtain ⟨⟨l1, l8⟩, b2, b16⟩ := okS_iff.1 hS
    by_cases hA : allIn 0 (b - 1) xs = true
    · have HO := Lib.hid (show okW xs b = true by unfold okW; rw [hS, hA]; rfl)
      have HX := Lib.hid ((allIn_iff _ _ _).1 hA)
      rw [HO.out, if_pos rfl] at hT hL
      rw [HO.out]
      have hvn := vN_bd b2 HX.out
      have HRUN := Lib.hid (fun w' => run_any xs.length (b - 1).toNat (vN b xs) b w' (by omega) (by omega) (by omega) (by omega) (by omega) hvn.2)
      rw [show wd b xs.length ((vN b xs : Nat) : Int) = xs from fR_zero b2 HX.out] at HRUN
      have hT2 : TT = tl (sN b xs.length) RM (vN b xs) := hT
      have hL2 : LL = rl (sN b xs.length) RM (vN b xs) - tl (sN b xs.length) RM (vN b xs) := hL
      obtain ⟨L, hLe⟩ : ∃ L, L = rl (sN b xs.length) RM (vN b xs) := ⟨_, rfl⟩
      obtain ⟨T, hTe⟩ : ∃ T, T = tl (sN b xs.length) RM (vN b xs) := ⟨_, rfl⟩
      rw [← hTe] at hT2 hL2 HRUN
      rw [← hLe] at hL2 HRUN
      try rw [← hTe] at hL2
      have HTT := Lib.hid hT2
      have HLL := Lib.hid hL2
      clear hvn hT hL hT2 hL2 hLe hTe
      go_enter Try.func69, Try.ntmps69
      go_wp2_with fail
      rw [← hw0]
      refine (isValid_any _ _ _).mono ?_
      rw [hS]
      rintro e w1 ⟨rfl, hb1⟩
      have B1 := Lib.hid (Below.step HBA.out HBA.out.size hb1)
      have c0 := Below.keeps_cell hb1 HC0.out
      have c1 := Below.keeps_cell hb1 HC1.out
      have H2 := Lib.hid (H1.out.keep hb1)
      have R1 := Lib.hid (HRA.out.keep hb1)
      clear hb1
      go_wp2_with fail
      refine (areDigits_sh _ xs _ _ _ H2.out.sl hl).mono ?_
      rw [hA]
      rintro e w2 ⟨rfl, hb2⟩
      have B2 := Lib.hid (Below.step B1.out B1.out.size hb2)
      have d0 := Below.keeps_cell hb2 c0
      have d1 := Below.keeps_cell hb2 c1
      have H3 := Lib.hid (H2.out.keep hb2)
      have R2 := Lib.hid (R1.out.keep hb2)
      have HHN := Lib.hid (heap_alloc_new w2 (.cells #[.int .i64 0, .int .i64 0, .int .i64 0, .int .i64 0, .int .i64 0, .int .i64 0, .int .i64 0, .int .i64 0] 63))
      have HA3 := Lib.hid (alloc_below w2 (.cells #[.int .i64 0, .int .i64 0, .int .i64 0, .int .i64 0, .int .i64 0, .int .i64 0, .int .i64 0, .int .i64 0] 63))
      have H4 := Lib.hid (H3.out.keep HA3.out)
      have HSR := Lib.hid (show 0 < (xs.map (Value.int .i64)).length → ∃ ad, a = some ad ∧ ∀ j q, (xs.map (Value.int .i64))[j]? = some q → (w2.alloc (.cells #[.int .i64 0, .int .i64 0, .int .i64 0, .int .i64 0, .int .i64 0, .int .i64 0, .int .i64 0, .int .i64 0] 63)).cell? (ad.add j) = some q from fun hp => by
        rcases H4.out.cases with ⟨_, hx⟩ | ⟨ga, ca, hu, _, _, _, _, hc, _⟩
        · rw [hx] at hp; simp at hp
        simp only [Value.slice.injEq] at hu
        obtain ⟨rfl, _, _⟩ := hu
        refine ⟨⟨ga, 0, none⟩, rfl, fun j q hq => ?_⟩
        have hj : j < xs.length := by have := (List.getElem?_eq_some_iff.1 hq).1; simpa using this
        rw [addr_add, Nat.zero_add, hc j hj, ← hq]
        simp [hj])
      have hsl := fun w g => slAll w g
      have HN := Lib.hid (show (xs.map (Value.int .i64)).length = Nat.min xs.length 8 by rw [List.length_map]; exact (Nat.min_eq_left (by omega)).symm)
      have HI := Lib.hid (arr_dw xs (by omega))
      have HSP := Lib.hid (splice_dw xs (by omega))
      have h8 : xs.length ≤ 8 := by omega
      clear hb2 c0 c1
      go_wp2_with (first
        | (refine wpList_copy_splice rfl (.tmp 25) (.tmp 26) 22 22 rfl 3 Try.underlying22 (by kernel_rfl) (some ⟨w2.heap.size, 0, none⟩) a 8 8 xs.length cap rfl rfl w2.heap.size 0 [.int .i64 0, .int .i64 0, .int .i64 0, .int .i64 0, .int .i64 0, .int .i64 0, .int .i64 0, .int .i64 0] 63 HHN.out (xs.map (.int .i64)) HN.out (fun hp => ⟨rfl, HSR.out hp⟩) (by simp; omega) (by intro q hq; obtain ⟨x, _, rfl⟩ := List.mem_map.1 hq; rfl) w2.heap.size w2 HA3.out (Nat.le_refl _) ?_; intro w3 hrow hb3; have HROW := Lib.hid (show w3.heap[w2.heap.size]? = some (.cells (dw xs) 63 (0, 0)) by rw [← HSP.out]; exact hrow.out); have B3 := Lib.hid (Below.step B2.out B2.out.size hb3); have R3 := Lib.hid (R2.out.keep hb3); have x0 := Below.keeps_cell hb3 d0; have x1 := Below.keeps_cell hb3 d1; clear hrow hb3 d0 d1)
        | (refine wpList_load_row rfl 63 (.tmp 10) rfl w2.heap.size rfl _ (dw xs) _ _ HROW.out arr8 rfl HI.out ?_))
      refine (HRUN.out _).mono ?_
      rintro e w4 ⟨g, c4, rfl, hw4, hb4⟩
      have R4 := R3.out.keep hb4
      have B4 := Lib.hid (Below.step B3.out B3.out.size hb4)
      have q0 := R4.at.2.2.2.2.2.1 0 (by simp)
      have q1 := R4.at.2.2.2.2.2.1 1 (by simp)
      have qf := R4.at.2.2.2.2.2.2
      simp only [List.getElem_cons_zero, List.getElem_cons_succ] at q0 q1
      clear hw4 hb4 R4
      go_wp2
      refine bodyPost_ret (v := .tuple #[.agg #[.slice (some ⟨g, 0, none⟩) T c4, .slice (some ⟨g, T * 8, none⟩) (L - T) (c4 - T)], .bool true]) (by simp [results, Try.results69, go_sem, q0, q1]) rfl ⟨some ⟨g, 0, none⟩, c4, some ⟨g, T * 8, none⟩, c4 - T, by rw [HTT.out, HLL.out], ?_⟩
      exact (B4.out.setCell (by simp) _).setCell (by simp) _
    · have hA' : allIn 0 (b - 1) xs = false := by simpa using hA
      have HO := Lib.hid (show okW xs b = false by unfold okW; rw [hA']; exact Bool.and_false _)
      rw [HO.out, if_neg (by simp)] at hT hL
      rw [HO.out]
      subst hT hL
      clear hA
      go_enter Try.func69, Try.ntmps69
      go_wp2_with fail
      rw [← hw0]
      refine (isValid_any _ _ _).mono ?_
      rw [hS]
      rintro e w1 ⟨rfl, hb1⟩
      have B1 := Lib.hid (Below.step HBA.out HBA.out.size hb1)
      have c0 := Below.keeps_cell hb1 HC0.out
      have c1 := Below.keeps_cell hb1 HC1.out
      have H2 := Lib.hid (H1.out.keep hb1)
      have R1 := Lib.hid (HRA.out.keep hb1)
      clear hb1
      go_wp2_with fail
      refine (areDigits_sh _ xs _ _ _ H2.out.sl hl).mono ?_
      rw [hA']
      rintro e w2 ⟨rfl, hb2⟩
      have B2 := Lib.hid (Below.step B1.out B1.out.size hb2)
      have R2 := Lib.hid (R1.out.keep hb2)
      clear hb2
      have R3 := R2.out.alloc (.cells #[.slice none 0 0, .slice none 0 0] 73)
      have q0 := R3.at.2.2.2.2.2.1 0 (by simp)
      have q1 := R3.at.2.2.2.2.2.1 1 (by simp)
      have qf := R3.at.2.2.2.2.2.2
      simp only [List.getElem_cons_zero, List.getElem_cons_succ] at q0 q1
      clear R3
      go_wp2
      refine bodyPost_ret (v := .tuple #[.agg #[.slice none 0 0, .slice none 0 0], .bool false]) (by simp [results, Try.results69, go_sem, q0, q1]) rfl ⟨none, 0, none, 0, rfl, ?_⟩
      exact ((B2.out.alloc B2.out.size _).setCell (by simp) _).setCell (by simp) _
  · have hS' : okS (xs.length : Int) b = false := by simpa using hS
    have HO := Lib.hid (show okW xs b = false by unfold okW; rw [hS']; rfl)
    rw [HO.out, if_neg (by simp)] at hT hL
    rw [HO.out]
    subst hT hL
    clear hS
    go_enter Try.func69, Try.ntmps69
    go_wp2_with fail
    rw [← hw0]
    refine (isValid_any _ _ _).mono ?_
    rw [hS']
    rintro e w2 ⟨rfl, hb2⟩
    have B2 := Lib.hid (Below.step HBA.out HBA.out.size hb2)
    have R2 := Lib.hid (HRA.out.keep hb2)
    clear hb2
    have R3 := R2.out.alloc (.cells #[.slice none 0 0, .slice none 0 0] 73)
    have q0 := R3.at.2.2.2.2.2.1 0 (by simp)
    have q1 := R3.at.2.2.2.2.2.1 1 (by simp)
    have qf := R3.at.2.2.2.2.2.2
    simp only [List.getElem_cons_zero, List.getElem_cons_succ] at q0 q1
    clear R3
    go_wp2
    refine bodyPost_ret (v := .tuple #[.agg #[.slice none 0 0, .slice none 0 0], .bool false]) (by simp [results, Try.results69, go_sem, q0, q1]) rfl ⟨none, 0, none, 0, rfl, ?_⟩
    exact ((B2.out.alloc B2.out.size _).setCell (by simp) _).setCell (by simp) _

theorem impl_TailOf (v : Value) (xs : List Int) (b : Int) (B : Nat) (w : World) (h : Rd w B v xs) (hl : xs.length ≤ 1048576) :
    Calls Try.prog 32 #[v, .int .i64 b] w fun e w' => e = .returned (VAL_TailOf xs b) ∧ Below w.heap.size w w' := by
  have H := Lib.hid h
  obtain ⟨a, cap, rfl⟩ := h.sl.len
  clear h
  obtain ⟨TT, hTT⟩ : ∃ TT, TT = if okW xs b = true then nT xs b else 0 := ⟨_, rfl⟩
  obtain ⟨LL, hLL⟩ : ∃ LL, LL = if okW xs b = true then nL xs b - nT xs b else 0 := ⟨_, rfl⟩
  have HVA := Lib.hid (show VA_TailOf xs b = (TT : Int) by rw [hTT]; unfold VA_TailOf; split <;> rfl)
  have HVB := Lib.hid (show VB_TailOf xs b = (LL : Int) by rw [hLL]; unfold VB_TailOf; split <;> rfl)
  rw [VAL_TailOf, HVA.out, HVB.out]
  have HA := Lib.hid (fun (u : Value) (w' : World) (h : Rd w' B u xs) => ask_run u xs b B w' h (by omega) TT LL hTT hLL)
  clear hTT hLL
  go_enter Try.func32, Try.ntmps32
  go_wp2_with fail
  refine (HA.out _ _ H.out).mono ?_
  rintro e w1 ⟨a1, c1, a2, c2, rfl, hb1⟩
  have B1 := Lib.hid hb1
  clear hb1
  go_wp2
  go_quiet (fail)
  rename_i nq
  go_wp2
  refine bodyPost_ret (v := .tuple #[.int .i64 (TT : Int), .int .i64 (LL : Int), .bool (okW xs b)]) (by simp [results, Try.results32, go_sem]) rfl ⟨rfl, ?_⟩
  exact below_drewN' (B1.out.alloc B1.out.size _) _

end Go.Proofs.Ytegclfohkjemgaa
