/-
  Answers: words of values, steps by gaps.
-/
import Derived.Test.YtegclfohkjemgaaJK
namespace Go.Proofs.Ytegclfohkjemgaa
open Go.RowKit
set_option linter.unusedVariables false
set_option linter.unusedSimpArgs false
set_option maxRecDepth 100000

/-- Is there a word of a width with this value? -/
def okN (n W b : Int) : Bool := okS W b && decide (0 ≤ n ∧ n < b ^ W.toNat)
abbrev OK_WordOf (n W b : Int) : Bool := okN n W b
def LF_WordOf (n W b : Int) : List Int := if okN n W b = true then wd b W.toNat n else []
theorem okN_cases (n W b : Int) : (okN n W b = true ∧ ∃ w : Nat, W = (w : Int) ∧ 1 ≤ w ∧ w ≤ 8 ∧ 2 ≤ b ∧ b ≤ 16 ∧ 0 ≤ n ∧ n < b ^ w) ∨ okN n W b = false := by
  cases h : okN n W b
  · exact .inr rfl
  · unfold okN at h
    rw [Bool.and_eq_true, okS_iff, decide_eq_true_eq] at h
    obtain ⟨⟨⟨h1, h2⟩, h3, h4⟩, h5, h6⟩ := h
    exact .inl ⟨rfl, W.toNat, by omega, by omega, by omega, h3, h4, h5, h6⟩
theorem LF_WordOf_len (n W b : Int) : (LF_WordOf n W b).length ≤ 2000000 := by
  unfold LF_WordOf
  rcases okN_cases n W b with ⟨h, w, rfl, h1, h2, _⟩ | h
  · rw [h, if_pos rfl, wd_len]; simp; omega
  · rw [h]; simp

theorem impl_WordOf (n W b : Int) (w : World) :
    Calls Try.prog 49 #[.int .i64 n, .int .i64 W, .int .i64 b] w fun e w' => ∃ u, e = .returned (.tuple #[u, .bool (OK_WordOf n W b)]) ∧ Rd w' w.heap.size u (LF_WordOf n W b) ∧ Below w.heap.size w w' := by
  have HAL := Lib.hid (alloc_below w (.cells #[.int .i64 W, .int .i64 b] 57))
  have HC0 := Lib.hid (show (w.alloc (.cells #[.int .i64 W, .int .i64 b] 57)).cell? ⟨w.heap.size, 0, none⟩ = some (.int .i64 W) by simp [go_sem])
  have HC1 := Lib.hid (show (w.alloc (.cells #[.int .i64 W, .int .i64 b] 57)).cell? ⟨w.heap.size, 1, none⟩ = some (.int .i64 b) by simp [go_sem])
  have HV := Lib.hid (show LF_WordOf n W b = (if okN n W b = true then wd b W.toNat n else []) from rfl)
  rw [HV.out, OK_WordOf]
  by_cases hS : okS W b = true
  · obtain ⟨⟨l1, l8⟩, b2, b16⟩ := okS_iff.1 hS
    obtain ⟨V, rfl⟩ : ∃ V : Nat, W = (V : Int) := ⟨W.toNat, by omega⟩
    have HVT := Lib.hid (show ((V : Int)).toNat = V by omega)
    rw [HVT.out]
    have hV8 : V ≤ 8 := by omega
    by_cases h0 : 0 ≤ n
    · have hp := (ws_all b2 b16 hV8).2.2
      have hp1 := Int.pow_pos (n := b) (m := V) (by omega)
      have HCW := Lib.hid (fun w' => countWords_any V b w' b2 b16 hV8)
      by_cases h1 : n < b ^ V
      · have HO := Lib.hid (show okN n (V : Int) b = true by unfold okN; rw [hS, HVT.out]; simp [h0, h1])
        have HLI := Lib.hid (fun w' => list_any (wd b V n) b w' (by rw [wd_len]; exact hV8))
        have HWO := Lib.hid (fun w' => word_any V n b w' b2 b16 hV8 h0 (by omega))
        rw [wd_len] at HLI
        rw [HO.out, if_pos rfl]
        obtain ⟨ys, hys⟩ : ∃ ys, ys = wd b V n := ⟨_, rfl⟩
        rw [← hys] at HLI HWO
        rw [← hys]
        obtain ⟨pw, hpw⟩ : ∃ pw, pw = b ^ V := ⟨_, rfl⟩
        rw [← hpw] at HCW hp hp1 h1
        clear hys hpw
        go_enter Try.func49, Try.ntmps49
        go_wp2_with fail
        refine (isValid_any _ _ _).mono ?_
        rw [hS]
        rintro e w1 ⟨rfl, hb1⟩
        have B1 := Lib.hid (Below.step HAL.out HAL.out.size hb1)
        have c0 := Below.keeps_cell hb1 HC0.out
        have c1 := Below.keeps_cell hb1 HC1.out
        clear hb1
        go_wp2_with fail
        refine (HCW.out _).mono ?_
        rintro e w2 ⟨rfl, hb2⟩
        have B2 := Lib.hid (Below.step B1.out B1.out.size hb2)
        have d0 := Below.keeps_cell hb2 c0
        have d1 := Below.keeps_cell hb2 c1
        clear hb2 c0 c1
        go_wp2
        have e0 : w2.drew.cell? ⟨w.heap.size, 0, none⟩ = some (.int .i64 (V : Int)) := d0
        have e1 : w2.drew.cell? ⟨w.heap.size, 1, none⟩ = some (.int .i64 b) := d1
        have B3 := Lib.hid (show Below w.heap.size w w2.drew from B2.out.drew)
        go_region_held3 (fun w' => w'.cell? ⟨w.heap.size, 0, none⟩ = some (.int .i64 (V : Int)) ∧ w'.cell? ⟨w.heap.size, 1, none⟩ = some (.int .i64 b)) (first | exact ⟨e0, e1⟩ | exact ⟨f0, f1⟩ | exact ⟨g0, g1⟩) (first
          | (go_at_call 93; refine (HWO.out _).mono ?_; rintro e w3 ⟨rfl, hb3⟩; have B4 := Lib.hid (Below.step B3.out B3.out.size hb3); have f0 := Below.keeps_cell hb3 e0; have f1 := Below.keeps_cell hb3 e1; clear hb3)
          | (go_at_call 64; refine (HLI.out _).mono ?_; rintro e w5 ⟨u5, rfl, hr5, hb5⟩; have R5 := Lib.hid (hr5.mono B4.out.size); have B5 := Lib.hid (Below.step B4.out B4.out.size hb5); have g0 := Below.keeps_cell hb5 f0; have g1 := Below.keeps_cell hb5 f1; clear hr5 hb5))
        go_wp2
        go_ret2
        exact ⟨u5, rfl, R5.out, B5.out⟩
      · have HO := Lib.hid (show okN n (V : Int) b = false by unfold okN; rw [hS, HVT.out]; simp [h0]; omega)
        rw [HO.out, if_neg (by simp)]
        obtain ⟨pw, hpw⟩ : ∃ pw, pw = b ^ V := ⟨_, rfl⟩
        rw [← hpw] at HCW hp hp1 h1
        clear hpw
        go_enter Try.func49, Try.ntmps49
        go_wp2_with fail
        refine (isValid_any _ _ _).mono ?_
        rw [hS]
        rintro e w1 ⟨rfl, hb1⟩
        have B1 := Lib.hid (Below.step HAL.out HAL.out.size hb1)
        have c0 := Below.keeps_cell hb1 HC0.out
        have c1 := Below.keeps_cell hb1 HC1.out
        clear hb1
        go_wp2_with fail
        refine (HCW.out _).mono ?_
        rintro e w2 ⟨rfl, hb2⟩
        have B2 := Lib.hid (Below.step B1.out B1.out.size hb2)
        clear hb2
        go_wp2
        go_ret2
        exact ⟨_, rfl, Rd.nil _ _, B2.out⟩
    · have HO := Lib.hid (show okN n (V : Int) b = false by unfold okN; rw [hS]; simp [h0])
      rw [HO.out, if_neg (by simp)]
      go_enter Try.func49, Try.ntmps49
      go_wp2_with fail
      refine (isValid_any _ _ _).mono ?_
      rw [hS]
      rintro e w1 ⟨rfl, hb1⟩
      have B1 := Lib.hid (Below.step HAL.out HAL.out.size hb1)
      clear hb1
      go_wp2
      go_ret2
      exact ⟨_, rfl, Rd.nil _ _, B1.out⟩
  · have hS' : okS W b = false := by simpa using hS
    have HO := Lib.hid (show okN n W b = false by unfold okN; rw [hS']; rfl)
    rw [HO.out, if_neg (by simp)]
    clear hS
    go_enter Try.func49, Try.ntmps49
    go_wp2_with fail
    refine (isValid_any _ _ _).mono ?_
    rw [hS']
    rintro e w1 ⟨rfl, hb1⟩
    have B1 := Lib.hid (Below.step HAL.out HAL.out.size hb1)
    clear hb1
    go_wp2
    go_ret2
    exact ⟨_, rfl, Rd.nil _ _, B1.out⟩

theorem spec_WordOf (n W b : Int) (w : World) :
    Calls Try.prog 48 #[.int .i64 n, .int .i64 W, .int .i64 b] w fun e w' => ∃ u, e = .returned (.tuple #[u, .bool (OK_WordOf n W b)]) ∧ Rd w' w.heap.size u (LF_WordOf n W b) ∧ Below w.heap.size w w' := by
  have HV := Lib.hid (show LF_WordOf n W b = (if okN n W b = true then wd b W.toNat n else []) from rfl)
  rw [HV.out, OK_WordOf]
  by_cases hS : okS W b = true
  · obtain ⟨⟨l1, l8⟩, b2, b16⟩ := okS_iff.1 hS
    obtain ⟨V, rfl⟩ : ∃ V : Nat, W = (V : Int) := ⟨W.toNat, by omega⟩
    have HVT := Lib.hid (show ((V : Int)).toNat = V by omega)
    rw [HVT.out]
    have hV8 : V ≤ 8 := by omega
    have hp := (ws_all b2 b16 hV8).2.2
    by_cases h0 : 0 ≤ n
    · by_cases h32 : n ≤ 4294967296
      · have HWI := Lib.hid (fun w' => gpWith_any V n b w' b2 b16 hV8 h0 h32)
        have HGV := Lib.hid (fun (u : Value) (w' : World) (h : Sl w' u (wd b V n)) => gpValue_any u (wd b V n) b w' h b2 b16 (wd_all b2 V n) (by rw [wd_len]; exact hV8))
        by_cases h1 : n < b ^ V
        · have HO := Lib.hid (show okN n (V : Int) b = true by unfold okN; rw [hS, HVT.out]; simp [h0, h1])
          rw [HO.out, if_pos rfl]
          have HE := Lib.hid (vl_wd b2 V n h0 h1)
          rw [HE.out] at HGV
          have hne : (n != n) = false := by simp
          go_enter Try.func48, Try.ntmps48
          go_wp2_with (first | (go_at_call 73; refine (gpAsked_any _ _ _).mono ?_; rw [hS]; rintro e w1 ⟨rfl, rfl⟩) | (go_at_call 84; refine (HWI.out _).mono ?_; rintro e w1 ⟨u, rfl, hr, hb⟩; have R1 := Lib.hid hr; have B1 := Lib.hid hb; clear hr hb) | (go_at_call 95; refine (HGV.out _ _ R1.out.sl).mono ?_; rintro e w2 ⟨rfl, rfl⟩))
          go_ret2
          exact ⟨u, rfl, R1.out, B1.out⟩
        · have HO := Lib.hid (show okN n (V : Int) b = false by unfold okN; rw [hS, HVT.out]; simp [h0]; omega)
          rw [HO.out, if_neg (by simp)]
          have hvb := vl_bd b2 V (wd b V n) (wd_len b V n) (wd_all b2 V n)
          obtain ⟨z, hz⟩ : ∃ z, z = vl b (wd b V n) := ⟨_, rfl⟩
          rw [← hz] at HGV hvb
          have hne : (z != n) = true := bne_yes (by omega)
          clear hz
          go_enter Try.func48, Try.ntmps48
          go_wp2_with (first | (go_at_call 73; refine (gpAsked_any _ _ _).mono ?_; rw [hS]; rintro e w1 ⟨rfl, rfl⟩) | (go_at_call 84; refine (HWI.out _).mono ?_; rintro e w1 ⟨u, rfl, hr, hb⟩; have R1 := Lib.hid hr; have B1 := Lib.hid hb; clear hr hb) | (go_at_call 95; refine (HGV.out _ _ R1.out.sl).mono ?_; rintro e w2 ⟨rfl, rfl⟩))
          go_ret2
          exact ⟨_, rfl, Rd.nil _ _, B1.out⟩
      · have HO := Lib.hid (show okN n (V : Int) b = false by unfold okN; rw [hS, HVT.out]; simp [h0]; omega)
        rw [HO.out, if_neg (by simp)]
        go_enter Try.func48, Try.ntmps48
        go_wp2_with (go_at_call 73; refine (gpAsked_any _ _ _).mono ?_; rw [hS]; rintro e w1 ⟨rfl, rfl⟩)
        go_ret2
        exact ⟨_, rfl, Rd.nil _ _, Below.refl _ _⟩
    · have HO := Lib.hid (show okN n (V : Int) b = false by unfold okN; rw [hS]; simp [h0])
      rw [HO.out, if_neg (by simp)]
      go_enter Try.func48, Try.ntmps48
      go_wp2_with (go_at_call 73; refine (gpAsked_any _ _ _).mono ?_; rw [hS]; rintro e w1 ⟨rfl, rfl⟩)
      go_ret2
      exact ⟨_, rfl, Rd.nil _ _, Below.refl _ _⟩
  · have hS' : okS W b = false := by simpa using hS
    have HO := Lib.hid (show okN n W b = false by unfold okN; rw [hS']; rfl)
    rw [HO.out, if_neg (by simp)]
    clear hS
    go_enter Try.func48, Try.ntmps48
    go_wp2_with (go_at_call 73; refine (gpAsked_any _ _ _).mono ?_; rw [hS']; rintro e w1 ⟨rfl, rfl⟩)
    go_ret2
    exact ⟨_, rfl, Rd.nil _ _, Below.refl _ _⟩

end Go.Proofs.Ytegclfohkjemgaa
