/-
  The program's answers about one word: its step, its gaps, its value.
-/
import Derived.Test.YtegclfohkjemgaaJG
import Derived.Test.YtegclfohkjemgaaJI
namespace Go.Proofs.Ytegclfohkjemgaa
open Go.RowKit
set_option linter.unusedVariables false
set_option linter.unusedSimpArgs false
set_option maxRecDepth 100000

theorem stepFrom_any (xs : List Int) (b : Int) (w : World) (hb : 2 ≤ b) (hb' : b ≤ 16) (hl : xs.length ≤ 8) (hl1 : 1 ≤ xs.length) (hx : ∀ x ∈ xs, 0 ≤ x ∧ x ≤ b - 1) :
    Calls Try.prog 55 #[shp (xs.length : Int) b, .agg (dw xs)] w fun e w' => ∃ u, e = .returned u ∧ Rd w' w.heap.size u (wd b xs.length (stv b xs)) ∧ Below w.heap.size w w' := by
  have hsz := dw_size hl
  obtain ⟨w2, hw2⟩ : ∃ w2, w2 = ((w.alloc (.cells #[.int .i64 (xs.length : Int), .int .i64 b] 57)).alloc (.cells (dw xs) 63)) := ⟨_, rfl⟩
  have HB2 := Lib.hid (show Below w.heap.size w w2 by rw [hw2]; exact (alloc_below w _).alloc (by simp) _)
  have H02 := Lib.hid (show w2.cell? ⟨w.heap.size, 0, none⟩ = some (.int .i64 (xs.length : Int)) by rw [hw2]; simp [go_sem])
  have H12 := Lib.hid (show w2.cell? ⟨w.heap.size, 1, none⟩ = some (.int .i64 b) by rw [hw2]; simp [go_sem])
  have HH2 := Lib.hid (show w2.heap[w.heap.size + 1]? = some (.cells (dw xs) 63 (0, 0)) by rw [hw2]; exact heap_alloc2_new _ _ _)
  have HCL := Lib.hid (dw_cells hl HH2.out)
  have HSS := Lib.hid (fun w' => sortedStep_any xs.length b w' hb hb' hl hl1)
  have HWS := Lib.hid (fun (B0 g3 g1 : Nat) (w' : World) (h : SS w' B0 g3 g1 xs.length b) => word_step xs g3 g1 b w' h hb hb' hl hx)
  have HLI := Lib.hid (fun (w' : World) => list_any (wd b xs.length (stv b xs)) b w' (by rw [wd_len]; exact hl))
  rw [dw_lit hl] at HWS
  rw [wd_len] at HLI
  obtain ⟨d0, hd0⟩ : ∃ d, d = xs.getD 0 0 := ⟨_, rfl⟩
  obtain ⟨d1, hd1⟩ : ∃ d, d = xs.getD 1 0 := ⟨_, rfl⟩
  obtain ⟨d2, hd2⟩ : ∃ d, d = xs.getD 2 0 := ⟨_, rfl⟩
  obtain ⟨d3, hd3⟩ : ∃ d, d = xs.getD 3 0 := ⟨_, rfl⟩
  obtain ⟨d4, hd4⟩ : ∃ d, d = xs.getD 4 0 := ⟨_, rfl⟩
  obtain ⟨d5, hd5⟩ : ∃ d, d = xs.getD 5 0 := ⟨_, rfl⟩
  obtain ⟨d6, hd6⟩ : ∃ d, d = xs.getD 6 0 := ⟨_, rfl⟩
  obtain ⟨d7, hd7⟩ : ∃ d, d = xs.getD 7 0 := ⟨_, rfl⟩
  rw [← hd0, ← hd1, ← hd2, ← hd3, ← hd4, ← hd5, ← hd6, ← hd7] at HWS
  have k0 : w2.drew.cell? ⟨w.heap.size + 1, 0, none⟩ = some (.int .i64 d0) := by rw [hd0]; exact HCL.out 0 (by omega)
  have k1 : w2.drew.cell? ⟨w.heap.size + 1, 1, none⟩ = some (.int .i64 d1) := by rw [hd1]; exact HCL.out 1 (by omega)
  have k2 : w2.drew.cell? ⟨w.heap.size + 1, 2, none⟩ = some (.int .i64 d2) := by rw [hd2]; exact HCL.out 2 (by omega)
  have k3 : w2.drew.cell? ⟨w.heap.size + 1, 3, none⟩ = some (.int .i64 d3) := by rw [hd3]; exact HCL.out 3 (by omega)
  have k4 : w2.drew.cell? ⟨w.heap.size + 1, 4, none⟩ = some (.int .i64 d4) := by rw [hd4]; exact HCL.out 4 (by omega)
  have k5 : w2.drew.cell? ⟨w.heap.size + 1, 5, none⟩ = some (.int .i64 d5) := by rw [hd5]; exact HCL.out 5 (by omega)
  have k6 : w2.drew.cell? ⟨w.heap.size + 1, 6, none⟩ = some (.int .i64 d6) := by rw [hd6]; exact HCL.out 6 (by omega)
  have k7 : w2.drew.cell? ⟨w.heap.size + 1, 7, none⟩ = some (.int .i64 d7) := by rw [hd7]; exact HCL.out 7 (by omega)
  clear hd0 hd1 hd2 hd3 hd4 hd5 hd6 hd7 HCL
  obtain ⟨ys, hys⟩ : ∃ ys, ys = wd b xs.length (stv b xs) := ⟨_, rfl⟩
  rw [← hys] at HWS HLI
  rw [← hys]
  clear hys
  go_enter Try.func55, Try.ntmps55
  go_wp2
  rw [← hw2]
  clear hw2
  have e2 : w2.drew.cell? ⟨w.heap.size, 0, none⟩ = some (.int .i64 (xs.length : Int)) := H02.out
  have e3 : w2.drew.cell? ⟨w.heap.size, 1, none⟩ = some (.int .i64 b) := H12.out
  have HBd := Lib.hid (show Below w.heap.size w w2.drew from HB2.out.drew)
  clear HB2 H02 H12 HH2
  go_region_held3 (fun w' => w'.cell? ⟨w.heap.size, 0, none⟩ = some (.int .i64 (xs.length : Int)) ∧ w'.cell? ⟨w.heap.size, 1, none⟩ = some (.int .i64 b) ∧ w'.cell? ⟨w.heap.size + 1, 0, none⟩ = some (.int .i64 d0) ∧ w'.cell? ⟨w.heap.size + 1, 1, none⟩ = some (.int .i64 d1) ∧ w'.cell? ⟨w.heap.size + 1, 2, none⟩ = some (.int .i64 d2) ∧ w'.cell? ⟨w.heap.size + 1, 3, none⟩ = some (.int .i64 d3) ∧ w'.cell? ⟨w.heap.size + 1, 4, none⟩ = some (.int .i64 d4) ∧ w'.cell? ⟨w.heap.size + 1, 5, none⟩ = some (.int .i64 d5) ∧ w'.cell? ⟨w.heap.size + 1, 6, none⟩ = some (.int .i64 d6) ∧ w'.cell? ⟨w.heap.size + 1, 7, none⟩ = some (.int .i64 d7)) (first | exact ⟨e2, e3, k0, k1, k2, k3, k4, k5, k6, k7⟩ | exact ⟨f2, f3, m0, m1, m2, m3, m4, m5, m6, m7⟩ | exact ⟨q2, q3, n0, n1, n2, n3, n4, n5, n6, n7⟩ | exact ⟨r2, r3, o0, o1, o2, o3, o4, o5, o6, o7⟩) (first
    | (go_at_call 102; refine (HSS.out _).mono ?_; rintro e w3 ⟨g3, g1, rfl, hs, hb3⟩; have S3 := Lib.hid hs; have B3 := Lib.hid (Below.step HBd.out HBd.out.size hb3); have f2 := Below.keeps_cell hb3 e2; have f3 := Below.keeps_cell hb3 e3; have m0 := Below.keeps_cell hb3 k0; have m1 := Below.keeps_cell hb3 k1; have m2 := Below.keeps_cell hb3 k2; have m3 := Below.keeps_cell hb3 k3; have m4 := Below.keeps_cell hb3 k4; have m5 := Below.keeps_cell hb3 k5; have m6 := Below.keeps_cell hb3 k6; have m7 := Below.keeps_cell hb3 k7; clear hs hb3)
    | (go_at_call 116; refine (HWS.out _ _ _ _ S3.out).mono ?_; rintro e w4 ⟨rfl, hb4⟩; have B4 := Lib.hid (Below.step B3.out B3.out.size hb4); have q2 := Below.keeps_cell hb4 f2; have q3 := Below.keeps_cell hb4 f3; have n0 := Below.keeps_cell hb4 m0; have n1 := Below.keeps_cell hb4 m1; have n2 := Below.keeps_cell hb4 m2; have n3 := Below.keeps_cell hb4 m3; have n4 := Below.keeps_cell hb4 m4; have n5 := Below.keeps_cell hb4 m5; have n6 := Below.keeps_cell hb4 m6; have n7 := Below.keeps_cell hb4 m7; clear hb4)
    | (go_at_call 64; refine (HLI.out _).mono ?_; rintro e w5 ⟨u5, rfl, hr5, hb5⟩; have R5 := Lib.hid (hr5.mono B4.out.size); have B5 := Lib.hid (Below.step B4.out B4.out.size hb5); have r2 := Below.keeps_cell hb5 q2; have r3 := Below.keeps_cell hb5 q3; have o0 := Below.keeps_cell hb5 n0; have o1 := Below.keeps_cell hb5 n1; have o2 := Below.keeps_cell hb5 n2; have o3 := Below.keeps_cell hb5 n3; have o4 := Below.keeps_cell hb5 n4; have o5 := Below.keeps_cell hb5 n5; have o6 := Below.keeps_cell hb5 n6; have o7 := Below.keeps_cell hb5 n7; clear hr5 hb5))
  go_wp2
  go_ret
  exact ⟨u5, rfl, R5.out, B5.out⟩

/-- Zeros with digits laid over them. -/
theorem splice_dw (xs : List Int) (hl : xs.length ≤ 8) : (splice [.int .i64 0, .int .i64 0, .int .i64 0, .int .i64 0, .int .i64 0, .int .i64 0, .int .i64 0, .int .i64 0] 0 (xs.map (Value.int .i64))).toArray = dw xs := by
  show (splice (List.replicate 8 (Value.int .i64 0)) 0 (xs.map (Value.int .i64))).toArray = dw xs
  unfold splice dw
  congr 1
  rw [List.take_zero, List.nil_append, Nat.zero_add, List.drop_replicate, List.length_map, List.map_append, List.map_replicate]

theorem ask_value (v : Value) (xs : List Int) (b : Int) (B : Nat) (w : World) (h : Rd w B v xs) (hl : xs.length ≤ 2000000) :
    Calls Try.prog 97 #[v, .int .i64 b, .func (Fn.func 98) #[] #[]] w fun e w' => e = .returned (.tuple #[.int .i64 (if okW xs b = true then vl b xs else 0), .bool (okW xs b)]) ∧ Below w.heap.size w w' := by
  have H := Lib.hid h
  obtain ⟨a, cap, rfl⟩ := h.sl.len
  clear h
  have HAL := Lib.hid (alloc_below w (.cells #[.int .i64 (xs.length : Int), .int .i64 b] 57))
  have HC0 := Lib.hid (show (w.alloc (.cells #[.int .i64 (xs.length : Int), .int .i64 b] 57)).cell? ⟨w.heap.size, 0, none⟩ = some (.int .i64 (xs.length : Int)) by simp [go_sem])
  have HC1 := Lib.hid (show (w.alloc (.cells #[.int .i64 (xs.length : Int), .int .i64 b] 57)).cell? ⟨w.heap.size, 1, none⟩ = some (.int .i64 b) by simp [go_sem])
  have H1 := Lib.hid (H.out.keep HAL.out)
  by_cases hS : okS (xs.length : Int) b = true
  · obtain ⟨⟨l1, l8⟩, b2, b16⟩ := okS_iff.1 hS
    by_cases hA : allIn 0 (b - 1) xs = true
    · have HO := Lib.hid (show okW xs b = true by unfold okW; rw [hS, hA]; rfl)
      have HX := Lib.hid ((allIn_iff _ _ _).1 hA)
      rw [HO.out, if_pos rfl]
      go_enter Try.func97, Try.ntmps97
      go_wp2_with fail
      refine (isValid_any _ _ _).mono ?_
      rw [hS]
      rintro e w1 ⟨rfl, hb1⟩
      have B1 := Lib.hid (Below.step HAL.out HAL.out.size hb1)
      have c0 := Below.keeps_cell hb1 HC0.out
      have c1 := Below.keeps_cell hb1 HC1.out
      have H2 := Lib.hid (H1.out.keep hb1)
      clear hb1
      go_wp2_with fail
      refine (areDigits_sh _ xs _ _ _ H2.out.sl hl).mono ?_
      rw [hA]
      rintro e w2 ⟨rfl, hb2⟩
      have B2 := Lib.hid (Below.step B1.out B1.out.size hb2)
      have d0 := Below.keeps_cell hb2 c0
      have d1 := Below.keeps_cell hb2 c1
      have H3 := Lib.hid (H2.out.keep hb2)
      have HHN := Lib.hid (heap_alloc_new w2 (.cells #[.int .i64 0, .int .i64 0, .int .i64 0, .int .i64 0, .int .i64 0, .int .i64 0, .int .i64 0, .int .i64 0] 63))
      have HA3 := Lib.hid (alloc_below w2 (.cells #[.int .i64 0, .int .i64 0, .int .i64 0, .int .i64 0, .int .i64 0, .int .i64 0, .int .i64 0, .int .i64 0] 63))
      have H4 := Lib.hid (H3.out.keep HA3.out)
      have g0 := Below.keeps_cell HA3.out d0
      have g1 := Below.keeps_cell HA3.out d1
      have HB3 := Lib.hid (Below.step B2.out B2.out.size HA3.out)
      have HSR := Lib.hid (show 0 < (xs.map (Value.int .i64)).length → ∃ ad, a = some ad ∧ ∀ j q, (xs.map (Value.int .i64))[j]? = some q → (w2.alloc (.cells #[.int .i64 0, .int .i64 0, .int .i64 0, .int .i64 0, .int .i64 0, .int .i64 0, .int .i64 0, .int .i64 0] 63)).cell? (ad.add j) = some q from fun hp => by
        rcases H4.out.cases with ⟨_, hx⟩ | ⟨ga, ca, hu, _, _, _, _, hc, _⟩
        · rw [hx] at hp; simp at hp
        simp only [Value.slice.injEq] at hu
        obtain ⟨rfl, _, _⟩ := hu
        refine ⟨⟨ga, 0, none⟩, rfl, fun j q hq => ?_⟩
        have hj : j < xs.length := by have := (List.getElem?_eq_some_iff.1 hq).1; simpa using this
        rw [addr_add, Nat.zero_add, hc j hj, ← hq]
        simp [hj])
      have hsl := fun w g => slAll w g
      have HN := Lib.hid (show (xs.map (Value.int .i64)).length = Nat.min xs.length 8 by rw [List.length_map]; exact (Nat.min_eq_left (by omega)).symm)
      clear hb2 c0 c1
      have HI := Lib.hid (arr_dw xs (by omega))
      have HSP := Lib.hid (splice_dw xs (by omega))
      have h8 : xs.length ≤ 8 := by omega
      go_wp2_with (first
        | (refine wpList_copy_splice rfl (.tmp 25) (.tmp 26) 22 22 rfl 3 Try.underlying22 (by kernel_rfl) (some ⟨w2.heap.size, 0, none⟩) a 8 8 xs.length cap rfl rfl w2.heap.size 0 [.int .i64 0, .int .i64 0, .int .i64 0, .int .i64 0, .int .i64 0, .int .i64 0, .int .i64 0, .int .i64 0] 63 HHN.out (xs.map (.int .i64)) HN.out (fun hp => ⟨rfl, HSR.out hp⟩) (by simp; omega) (by intro q hq; obtain ⟨x, _, rfl⟩ := List.mem_map.1 hq; rfl) w2.heap.size w2 HA3.out (Nat.le_refl _) ?_; intro w3 hrow hb3; have HROW := Lib.hid (show w3.heap[w2.heap.size]? = some (.cells (dw xs) 63 (0, 0)) by rw [← HSP.out]; exact hrow.out); have B3 := Lib.hid (Below.step B2.out B2.out.size hb3); have x0 := Below.keeps_cell hb3 d0; have x1 := Below.keeps_cell hb3 d1; clear hrow hb3 g0 g1 d0 d1)
        | (refine wpList_load_row rfl 63 (.tmp 10) rfl w2.heap.size rfl _ (dw xs) _ _ HROW.out arr8 rfl HI.out ?_)
        | (go_at_call 98; refine (value_any xs b _ b2 b16 HX.out h8).mono ?_; rintro e w4 ⟨rfl, hb4⟩; have B4 := Lib.hid (Below.step B3.out B3.out.size hb4); clear hb4))
      go_ret2
      exact ⟨rfl, B4.out⟩
    · have hA' : allIn 0 (b - 1) xs = false := by simpa using hA
      have HO := Lib.hid (show okW xs b = false by unfold okW; rw [hA']; exact Bool.and_false _)
      clear hA
      rw [HO.out, if_neg (by simp)]
      go_enter Try.func97, Try.ntmps97
      go_wp2_with fail
      refine (isValid_any _ _ _).mono ?_
      rw [hS]
      rintro e w1 ⟨rfl, hb1⟩
      have B1 := Lib.hid (Below.step HAL.out HAL.out.size hb1)
      have c0 := Below.keeps_cell hb1 HC0.out
      have c1 := Below.keeps_cell hb1 HC1.out
      have H2 := Lib.hid (H1.out.keep hb1)
      clear hb1
      go_wp2_with fail
      refine (areDigits_sh _ xs _ _ _ H2.out.sl hl).mono ?_
      rw [hA']
      rintro e w2 ⟨rfl, hb2⟩
      have B2 := Lib.hid (Below.step B1.out B1.out.size hb2)
      clear hb2
      go_wp2
      go_ret2
      exact ⟨rfl, B2.out⟩
  · have hS' : okS (xs.length : Int) b = false := by simpa using hS
    have HO := Lib.hid (show okW xs b = false by unfold okW; rw [hS']; rfl)
    clear hS
    rw [HO.out, if_neg (by simp)]
    go_enter Try.func97, Try.ntmps97
    go_wp2_with fail
    refine (isValid_any _ _ _).mono ?_
    rw [hS']
    rintro e w1 ⟨rfl, hb1⟩
    have B1 := Lib.hid (Below.step HAL.out HAL.out.size hb1)
    clear hb1
    go_wp2
    go_ret2
    exact ⟨rfl, B1.out⟩

theorem ask_gaps (v : Value) (xs : List Int) (b : Int) (B : Nat) (w : World) (h : Rd w B v xs) (hl : xs.length ≤ 2000000) :
    Calls Try.prog 54 #[v, .int .i64 b, .func (Fn.func 57) #[] #[]] w fun e w' => ∃ u, e = .returned (.tuple #[u, .bool (okW xs b)]) ∧ Rd w' w.heap.size u (if okW xs b = true then gp xs else []) ∧ Below w.heap.size w w' := by
  have H := Lib.hid h
  obtain ⟨a, cap, rfl⟩ := h.sl.len
  clear h
  have HAL := Lib.hid (alloc_below w (.cells #[.int .i64 (xs.length : Int), .int .i64 b] 57))
  have HC0 := Lib.hid (show (w.alloc (.cells #[.int .i64 (xs.length : Int), .int .i64 b] 57)).cell? ⟨w.heap.size, 0, none⟩ = some (.int .i64 (xs.length : Int)) by simp [go_sem])
  have HC1 := Lib.hid (show (w.alloc (.cells #[.int .i64 (xs.length : Int), .int .i64 b] 57)).cell? ⟨w.heap.size, 1, none⟩ = some (.int .i64 b) by simp [go_sem])
  have H1 := Lib.hid (H.out.keep HAL.out)
  by_cases hS : okS (xs.length : Int) b = true
  · obtain ⟨⟨l1, l8⟩, b2, b16⟩ := okS_iff.1 hS
    by_cases hA : allIn 0 (b - 1) xs = true
    · have HO := Lib.hid (show okW xs b = true by unfold okW; rw [hS, hA]; rfl)
      have HX := Lib.hid ((allIn_iff _ _ _).1 hA)
      rw [HO.out, if_pos rfl]
      go_enter Try.func54, Try.ntmps54
      go_wp2_with fail
      refine (isValid_any _ _ _).mono ?_
      rw [hS]
      rintro e w1 ⟨rfl, hb1⟩
      have B1 := Lib.hid (Below.step HAL.out HAL.out.size hb1)
      have c0 := Below.keeps_cell hb1 HC0.out
      have c1 := Below.keeps_cell hb1 HC1.out
      have H2 := Lib.hid (H1.out.keep hb1)
      clear hb1
      go_wp2_with fail
      refine (areDigits_sh _ xs _ _ _ H2.out.sl hl).mono ?_
      rw [hA]
      rintro e w2 ⟨rfl, hb2⟩
      have B2 := Lib.hid (Below.step B1.out B1.out.size hb2)
      have d0 := Below.keeps_cell hb2 c0
      have d1 := Below.keeps_cell hb2 c1
      have H3 := Lib.hid (H2.out.keep hb2)
      have HHN := Lib.hid (heap_alloc_new w2 (.cells #[.int .i64 0, .int .i64 0, .int .i64 0, .int .i64 0, .int .i64 0, .int .i64 0, .int .i64 0, .int .i64 0] 63))
      have HA3 := Lib.hid (alloc_below w2 (.cells #[.int .i64 0, .int .i64 0, .int .i64 0, .int .i64 0, .int .i64 0, .int .i64 0, .int .i64 0, .int .i64 0] 63))
      have H4 := Lib.hid (H3.out.keep HA3.out)
      have g0 := Below.keeps_cell HA3.out d0
      have g1 := Below.keeps_cell HA3.out d1
      have HB3 := Lib.hid (Below.step B2.out B2.out.size HA3.out)
      have HSR := Lib.hid (show 0 < (xs.map (Value.int .i64)).length → ∃ ad, a = some ad ∧ ∀ j q, (xs.map (Value.int .i64))[j]? = some q → (w2.alloc (.cells #[.int .i64 0, .int .i64 0, .int .i64 0, .int .i64 0, .int .i64 0, .int .i64 0, .int .i64 0, .int .i64 0] 63)).cell? (ad.add j) = some q from fun hp => by
        rcases H4.out.cases with ⟨_, hx⟩ | ⟨ga, ca, hu, _, _, _, _, hc, _⟩
        · rw [hx] at hp; simp at hp
        simp only [Value.slice.injEq] at hu
        obtain ⟨rfl, _, _⟩ := hu
        refine ⟨⟨ga, 0, none⟩, rfl, fun j q hq => ?_⟩
        have hj : j < xs.length := by have := (List.getElem?_eq_some_iff.1 hq).1; simpa using this
        rw [addr_add, Nat.zero_add, hc j hj, ← hq]
        simp [hj])
      have hsl := fun w g => slAll w g
      have HN := Lib.hid (show (xs.map (Value.int .i64)).length = Nat.min xs.length 8 by rw [List.length_map]; exact (Nat.min_eq_left (by omega)).symm)
      clear hb2 c0 c1
      have HI := Lib.hid (arr_dw xs (by omega))
      have HSP := Lib.hid (splice_dw xs (by omega))
      have h8 : xs.length ≤ 8 := by omega
      go_wp2_with (first
        | (refine wpList_copy_splice rfl (.tmp 25) (.tmp 26) 22 22 rfl 3 Try.underlying22 (by kernel_rfl) (some ⟨w2.heap.size, 0, none⟩) a 8 8 xs.length cap rfl rfl w2.heap.size 0 [.int .i64 0, .int .i64 0, .int .i64 0, .int .i64 0, .int .i64 0, .int .i64 0, .int .i64 0, .int .i64 0] 63 HHN.out (xs.map (.int .i64)) HN.out (fun hp => ⟨rfl, HSR.out hp⟩) (by simp; omega) (by intro q hq; obtain ⟨x, _, rfl⟩ := List.mem_map.1 hq; rfl) w2.heap.size w2 HA3.out (Nat.le_refl _) ?_; intro w3 hrow hb3; have HROW := Lib.hid (show w3.heap[w2.heap.size]? = some (.cells (dw xs) 63 (0, 0)) by rw [← HSP.out]; exact hrow.out); have B3 := Lib.hid (Below.step B2.out B2.out.size hb3); have x0 := Below.keeps_cell hb3 d0; have x1 := Below.keeps_cell hb3 d1; clear hrow hb3 g0 g1 d0 d1)
        | (refine wpList_load_row rfl 63 (.tmp 10) rfl w2.heap.size rfl _ (dw xs) _ _ HROW.out arr8 rfl HI.out ?_)
        | (go_at_call 57; refine (gaps_any xs b _ h8 b16 HX.out).mono ?_; rintro e w4 ⟨u4, rfl, hr4, hb4⟩; have R4 := Lib.hid (hr4.mono B3.out.size); clear hr4; have B4 := Lib.hid (Below.step B3.out B3.out.size hb4); clear hb4))
      go_ret2
      exact ⟨u4, rfl, R4.out, B4.out⟩
    · have hA' : allIn 0 (b - 1) xs = false := by simpa using hA
      have HO := Lib.hid (show okW xs b = false by unfold okW; rw [hA']; exact Bool.and_false _)
      clear hA
      rw [HO.out, if_neg (by simp)]
      go_enter Try.func54, Try.ntmps54
      go_wp2_with fail
      refine (isValid_any _ _ _).mono ?_
      rw [hS]
      rintro e w1 ⟨rfl, hb1⟩
      have B1 := Lib.hid (Below.step HAL.out HAL.out.size hb1)
      have c0 := Below.keeps_cell hb1 HC0.out
      have c1 := Below.keeps_cell hb1 HC1.out
      have H2 := Lib.hid (H1.out.keep hb1)
      clear hb1
      go_wp2_with fail
      refine (areDigits_sh _ xs _ _ _ H2.out.sl hl).mono ?_
      rw [hA']
      rintro e w2 ⟨rfl, hb2⟩
      have B2 := Lib.hid (Below.step B1.out B1.out.size hb2)
      clear hb2
      go_wp2
      go_ret2
      exact ⟨_, rfl, Rd.nil _ _, B2.out⟩
  · have hS' : okS (xs.length : Int) b = false := by simpa using hS
    have HO := Lib.hid (show okW xs b = false by unfold okW; rw [hS']; rfl)
    clear hS
    rw [HO.out, if_neg (by simp)]
    go_enter Try.func54, Try.ntmps54
    go_wp2_with fail
    refine (isValid_any _ _ _).mono ?_
    rw [hS']
    rintro e w1 ⟨rfl, hb1⟩
    have B1 := Lib.hid (Below.step HAL.out HAL.out.size hb1)
    clear hb1
    go_wp2
    go_ret2
    exact ⟨_, rfl, Rd.nil _ _, B1.out⟩

theorem ask_step (v : Value) (xs : List Int) (b : Int) (B : Nat) (w : World) (h : Rd w B v xs) (hl : xs.length ≤ 2000000) :
    Calls Try.prog 54 #[v, .int .i64 b, .func (Fn.func 55) #[] #[]] w fun e w' => ∃ u, e = .returned (.tuple #[u, .bool (okW xs b)]) ∧ Rd w' w.heap.size u (if okW xs b = true then wd b xs.length (stv b xs) else []) ∧ Below w.heap.size w w' := by
  have H := Lib.hid h
  obtain ⟨a, cap, rfl⟩ := h.sl.len
  clear h
  have HAL := Lib.hid (alloc_below w (.cells #[.int .i64 (xs.length : Int), .int .i64 b] 57))
  have HC0 := Lib.hid (show (w.alloc (.cells #[.int .i64 (xs.length : Int), .int .i64 b] 57)).cell? ⟨w.heap.size, 0, none⟩ = some (.int .i64 (xs.length : Int)) by simp [go_sem])
  have HC1 := Lib.hid (show (w.alloc (.cells #[.int .i64 (xs.length : Int), .int .i64 b] 57)).cell? ⟨w.heap.size, 1, none⟩ = some (.int .i64 b) by simp [go_sem])
  have H1 := Lib.hid (H.out.keep HAL.out)
  by_cases hS : okS (xs.length : Int) b = true
  · obtain ⟨⟨l1, l8⟩, b2, b16⟩ := okS_iff.1 hS
    by_cases hA : allIn 0 (b - 1) xs = true
    · have HO := Lib.hid (show okW xs b = true by unfold okW; rw [hS, hA]; rfl)
      have HX := Lib.hid ((allIn_iff _ _ _).1 hA)
      rw [HO.out, if_pos rfl]
      go_enter Try.func54, Try.ntmps54
      go_wp2_with fail
      refine (isValid_any _ _ _).mono ?_
      rw [hS]
      rintro e w1 ⟨rfl, hb1⟩
      have B1 := Lib.hid (Below.step HAL.out HAL.out.size hb1)
      have c0 := Below.keeps_cell hb1 HC0.out
      have c1 := Below.keeps_cell hb1 HC1.out
      have H2 := Lib.hid (H1.out.keep hb1)
      clear hb1
      go_wp2_with fail
      refine (areDigits_sh _ xs _ _ _ H2.out.sl hl).mono ?_
      rw [hA]
      rintro e w2 ⟨rfl, hb2⟩
      have B2 := Lib.hid (Below.step B1.out B1.out.size hb2)
      have d0 := Below.keeps_cell hb2 c0
      have d1 := Below.keeps_cell hb2 c1
      have H3 := Lib.hid (H2.out.keep hb2)
      have HHN := Lib.hid (heap_alloc_new w2 (.cells #[.int .i64 0, .int .i64 0, .int .i64 0, .int .i64 0, .int .i64 0, .int .i64 0, .int .i64 0, .int .i64 0] 63))
      have HA3 := Lib.hid (alloc_below w2 (.cells #[.int .i64 0, .int .i64 0, .int .i64 0, .int .i64 0, .int .i64 0, .int .i64 0, .int .i64 0, .int .i64 0] 63))
      have H4 := Lib.hid (H3.out.keep HA3.out)
      have g0 := Below.keeps_cell HA3.out d0
      have g1 := Below.keeps_cell HA3.out d1
      have HB3 := Lib.hid (Below.step B2.out B2.out.size HA3.out)
      have HSR := Lib.hid (show 0 < (xs.map (Value.int .i64)).length → ∃ ad, a = some ad ∧ ∀ j q, (xs.map (Value.int .i64))[j]? = some q → (w2.alloc (.cells #[.int .i64 0, .int .i64 0, .int .i64 0, .int .i64 0, .int .i64 0, .int .i64 0, .int .i64 0, .int .i64 0] 63)).cell? (ad.add j) = some q from fun hp => by
        rcases H4.out.cases with ⟨_, hx⟩ | ⟨ga, ca, hu, _, _, _, _, hc, _⟩
        · rw [hx] at hp; simp at hp
        simp only [Value.slice.injEq] at hu
        obtain ⟨rfl, _, _⟩ := hu
        refine ⟨⟨ga, 0, none⟩, rfl, fun j q hq => ?_⟩
        have hj : j < xs.length := by have := (List.getElem?_eq_some_iff.1 hq).1; simpa using this
        rw [addr_add, Nat.zero_add, hc j hj, ← hq]
        simp [hj])
      have hsl := fun w g => slAll w g
      have HN := Lib.hid (show (xs.map (Value.int .i64)).length = Nat.min xs.length 8 by rw [List.length_map]; exact (Nat.min_eq_left (by omega)).symm)
      clear hb2 c0 c1
      have HI := Lib.hid (arr_dw xs (by omega))
      have HSP := Lib.hid (splice_dw xs (by omega))
      have h8 : xs.length ≤ 8 := by omega
      go_wp2_with (first
        | (refine wpList_copy_splice rfl (.tmp 25) (.tmp 26) 22 22 rfl 3 Try.underlying22 (by kernel_rfl) (some ⟨w2.heap.size, 0, none⟩) a 8 8 xs.length cap rfl rfl w2.heap.size 0 [.int .i64 0, .int .i64 0, .int .i64 0, .int .i64 0, .int .i64 0, .int .i64 0, .int .i64 0, .int .i64 0] 63 HHN.out (xs.map (.int .i64)) HN.out (fun hp => ⟨rfl, HSR.out hp⟩) (by simp; omega) (by intro q hq; obtain ⟨x, _, rfl⟩ := List.mem_map.1 hq; rfl) w2.heap.size w2 HA3.out (Nat.le_refl _) ?_; intro w3 hrow hb3; have HROW := Lib.hid (show w3.heap[w2.heap.size]? = some (.cells (dw xs) 63 (0, 0)) by rw [← HSP.out]; exact hrow.out); have B3 := Lib.hid (Below.step B2.out B2.out.size hb3); have x0 := Below.keeps_cell hb3 d0; have x1 := Below.keeps_cell hb3 d1; clear hrow hb3 g0 g1 d0 d1)
        | (refine wpList_load_row rfl 63 (.tmp 10) rfl w2.heap.size rfl _ (dw xs) _ _ HROW.out arr8 rfl HI.out ?_)
        | (go_at_call 55; refine (stepFrom_any xs b _ b2 b16 h8 (by omega) HX.out).mono ?_; rintro e w4 ⟨u4, rfl, hr4, hb4⟩; have R4 := Lib.hid (hr4.mono B3.out.size); clear hr4; have B4 := Lib.hid (Below.step B3.out B3.out.size hb4); clear hb4))
      go_ret2
      exact ⟨u4, rfl, R4.out, B4.out⟩
    · have hA' : allIn 0 (b - 1) xs = false := by simpa using hA
      have HO := Lib.hid (show okW xs b = false by unfold okW; rw [hA']; exact Bool.and_false _)
      clear hA
      rw [HO.out, if_neg (by simp)]
      go_enter Try.func54, Try.ntmps54
      go_wp2_with fail
      refine (isValid_any _ _ _).mono ?_
      rw [hS]
      rintro e w1 ⟨rfl, hb1⟩
      have B1 := Lib.hid (Below.step HAL.out HAL.out.size hb1)
      have c0 := Below.keeps_cell hb1 HC0.out
      have c1 := Below.keeps_cell hb1 HC1.out
      have H2 := Lib.hid (H1.out.keep hb1)
      clear hb1
      go_wp2_with fail
      refine (areDigits_sh _ xs _ _ _ H2.out.sl hl).mono ?_
      rw [hA']
      rintro e w2 ⟨rfl, hb2⟩
      have B2 := Lib.hid (Below.step B1.out B1.out.size hb2)
      clear hb2
      go_wp2
      go_ret2
      exact ⟨_, rfl, Rd.nil _ _, B2.out⟩
  · have hS' : okS (xs.length : Int) b = false := by simpa using hS
    have HO := Lib.hid (show okW xs b = false by unfold okW; rw [hS']; rfl)
    clear hS
    rw [HO.out, if_neg (by simp)]
    go_enter Try.func54, Try.ntmps54
    go_wp2_with fail
    refine (isValid_any _ _ _).mono ?_
    rw [hS']
    rintro e w1 ⟨rfl, hb1⟩
    have B1 := Lib.hid (Below.step HAL.out HAL.out.size hb1)
    clear hb1
    go_wp2
    go_ret2
    exact ⟨_, rfl, Rd.nil _ _, B1.out⟩

end Go.Proofs.Ytegclfohkjemgaa
