/-
  Answers of AllGaps.
-/
import Derived.Test.YtegclfohkjemgaaJR
namespace Go.Proofs.Ytegclfohkjemgaa
open Go.RowKit
set_option linter.unusedVariables false
set_option linter.unusedSimpArgs false
set_option maxRecDepth 100000

theorem offZ_bd {Z : Nat → List Int} (h : ∀ i, (Z i).length ≤ 40000) : ∀ i, 0 ≤ offZ 1 Z i ∧ offZ 1 Z i ≤ 1 + 40000 * i
  | 0 => by simp [offZ]
  | i + 1 => by
    have := offZ_bd h i
    have := h i
    simp only [offZ]
    push_cast
    omega
theorem Und.apartOld {w : World} {C : Nat} {v x : Value} {vs : List Value} {xs : List Int} (h : Und C v vs) (hx : Rd w C x xs) : ∀ (i : Nat) (u : Value), vs[i]? = some u → u.ownBlock = none ∨ u.ownBlock ≠ x.ownBlock := LLi.far h hx
theorem LLf.apartNew {w : World} {B : Nat} {v x : Value} {vs : List Value} {Z : Nat → List Int} (h : LLf w B v vs Z) (hx : ∀ k, x.ownBlock = some k → k < B) : ∀ (i : Nat) (u : Value), vs[i]? = some u → u.ownBlock = none ∨ u.ownBlock ≠ x.ownBlock := fun i u hu => by
  cases hq : u.ownBlock with
  | none => exact .inl rfl
  | some k =>
    right
    intro e
    have h1 := ((h.at' i u hu).lt k hq).1
    have h2 := hx k e.symm
    omega
theorem lsZ_len {ls : List (List Int)} {n : Nat} (h : ∀ l ∈ ls, l.length ≤ n) (i : Nat) : (lsZ ls i).length ≤ n := by
  unfold lsZ
  rw [List.getD_eq_getElem?_getD]
  cases hq : ls[i]? with
  | none => simp
  | some l => exact h l (List.mem_of_getElem? hq)

theorem okS_nat {W b : Int} (h : okS W b = true) : ∃ V M : Nat, W = (V : Int) ∧ b = ((M + 1 : Nat) : Int) ∧ 1 ≤ V ∧ V ≤ 8 ∧ 1 ≤ M ∧ M ≤ 15 := by
  obtain ⟨⟨l1, l8⟩, b2, b16⟩ := okS_iff.1 h
  exact ⟨W.toNat, b.toNat - 1, by omega, by omega, by omega, by omega, by omega, by omega⟩

abbrev OK_AllGaps (W b : Int) : Bool := okS W b
def LF_AllGaps (W b : Int) : List (List Int) := if okS W b = true then ndr (W.toNat / 2) (b.toNat - 1) else []
theorem LF_AllGaps_bd (W b : Int) : (LF_AllGaps W b).length ≤ 40000 ∧ ∀ i, (lsZ (LF_AllGaps W b) i).length ≤ 40000 := by
  unfold LF_AllGaps
  by_cases h : okS W b = true
  · obtain ⟨V, M, rfl, rfl, h1, h2, h3, h4⟩ := okS_nat h
    rw [if_pos h]
    have h5 := ndr_bd (k := ((V : Int)).toNat / 2) (m := (((M + 1 : Nat) : Int)).toNat - 1) (by omega) (by omega)
    exact ⟨by omega, lsZ_len (fun l hl => by rw [ndr_all _ _ l hl]; omega)⟩
  · rw [if_neg h]; exact ⟨by simp, fun i => by simp [lsZ]⟩

theorem allGaps_any (V M : Nat) (w : World) (hV : V ≤ 8) (hM : M ≤ 15) :
    Calls Try.prog 76 #[shp (V : Int) ((M + 1 : Nat) : Int)] w fun e w' => ∃ u vs, e = .returned u ∧ LLi w' w.heap.size u vs (ndr (V / 2) M) ∧ Below w.heap.size w w' := by
  obtain ⟨b, hb⟩ : ∃ b : Int, b = ((M + 1 : Nat) : Int) := ⟨_, rfl⟩
  rw [← hb]
  have HAL := Lib.hid (alloc_below w (.cells #[.int .i64 (V : Int), .int .i64 b] 57))
  have HC0 := Lib.hid (show (w.alloc (.cells #[.int .i64 (V : Int), .int .i64 b] 57)).cell? ⟨w.heap.size, 0, none⟩ = some (.int .i64 (V : Int)) by simp [go_sem])
  have HC1 := Lib.hid (show (w.alloc (.cells #[.int .i64 (V : Int), .int .i64 b] 57)).cell? ⟨w.heap.size, 1, none⟩ = some (.int .i64 b) by simp [go_sem])
  have HCG := Lib.hid (fun w' => countGaps_any V b w' hV)
  have HLT := Lib.hid (fun w' => ltr_any (V / 2) M w' (by omega) hM)
  have hwq : IntKind.i64.wrap (b - 1) = (M : Int) := by rw [IntWalk.i64_in _ (by omega)]; omega
  obtain ⟨k, hk⟩ : ∃ k : Nat, k = V / 2 := ⟨_, rfl⟩
  rw [← hk] at HCG HLT
  rw [← hk]
  clear hk hb
  go_enter Try.func76, Try.ntmps76
  go_wp2
  obtain ⟨w2, hw2⟩ : ∃ w2, w2 = (w.alloc (.cells #[.int .i64 (V : Int), .int .i64 b] 57)) := ⟨_, rfl⟩
  rw [← hw2] at HAL HC0 HC1
  rw [← hw2]
  clear hw2
  have e0 : w2.drew.cell? ⟨w.heap.size, 0, none⟩ = some (.int .i64 (V : Int)) := HC0.out
  have e1 : w2.drew.cell? ⟨w.heap.size, 1, none⟩ = some (.int .i64 b) := HC1.out
  have B2 := Lib.hid (show Below w.heap.size w w2.drew from HAL.out.drew)
  go_region_held3 (fun w' => w'.cell? ⟨w.heap.size, 0, none⟩ = some (.int .i64 (V : Int)) ∧ w'.cell? ⟨w.heap.size, 1, none⟩ = some (.int .i64 b)) (first | exact ⟨e0, e1⟩ | exact ⟨f0, f1⟩ | exact ⟨g0, g1⟩) (first
    | (go_at_call 104; refine (HCG.out _).mono ?_; rintro e w3 ⟨rfl, hb3⟩; have B3 := Lib.hid (Below.step B2.out B2.out.size hb3); have f0 := Below.keeps_cell hb3 e0; have f1 := Below.keeps_cell hb3 e1; clear hb3)
    | (go_at_call 112; refine (HLT.out _).mono ?_; rintro e w5 ⟨u5, vs5, rfl, hr5, hb5⟩; have R5 := Lib.hid (hr5.mono B3.out.size); have B5 := Lib.hid (Below.step B3.out B3.out.size hb5); have g0 := Below.keeps_cell hb5 f0; have g1 := Below.keeps_cell hb5 f1; clear hr5 hb5))
  go_wp2
  go_ret
  exact ⟨u5, vs5, rfl, R5.out, B5.out⟩

theorem impl_AllGaps (W b : Int) (w : World) :
    Calls Try.prog 36 #[.int .i64 W, .int .i64 b] w fun e w' => ∃ u vs, e = .returned (.tuple #[u, .bool (OK_AllGaps W b)]) ∧ LLi w' w.heap.size u vs (LF_AllGaps W b) ∧ Below w.heap.size w w' := by
  have HASK := Lib.hid (show ∀ w' : World, Calls Try.prog 75 #[.int .i64 W, .int .i64 b, .func (Fn.func 76) #[] #[]] w' fun e w'' => ∃ u vs, e = .returned (.tuple #[u, .bool (OK_AllGaps W b)]) ∧ LLi w'' w'.heap.size u vs (LF_AllGaps W b) ∧ Below w'.heap.size w' w'' from fun w' => by
    have HAL := Lib.hid (alloc_below w' (.cells #[.int .i64 W, .int .i64 b] 57))
    have HC0 := Lib.hid (show (w'.alloc (.cells #[.int .i64 W, .int .i64 b] 57)).cell? ⟨w'.heap.size, 0, none⟩ = some (.int .i64 W) by simp [go_sem])
    have HC1 := Lib.hid (show (w'.alloc (.cells #[.int .i64 W, .int .i64 b] 57)).cell? ⟨w'.heap.size, 1, none⟩ = some (.int .i64 b) by simp [go_sem])
    have HV := Lib.hid (show LF_AllGaps W b = (if okS W b = true then ndr (W.toNat / 2) (b.toNat - 1) else []) from rfl)
    rw [HV.out, OK_AllGaps]
    by_cases hS : okS W b = true
    · rw [hS, if_pos rfl]
      obtain ⟨V, M, rfl, rfl, h1, h2, h3, h4⟩ := okS_nat hS
      have HF := Lib.hid (fun w' => allGaps_any V M w' h2 h4)
      rw [show (V : Int).toNat / 2 = V / 2 by omega, show (((M + 1 : Nat) : Int)).toNat - 1 = M by omega]
      obtain ⟨b, hb⟩ : ∃ b : Int, b = ((M + 1 : Nat) : Int) := ⟨_, rfl⟩
      rw [← hb] at hS HF HAL HC0 HC1
      rw [← hb]
      clear hb
      go_enter Try.func75, Try.ntmps75
      go_wp2_with fail
      refine (isValid_any _ _ _).mono ?_
      rw [hS]
      rintro e w1 ⟨rfl, hb1⟩
      have B1 := Lib.hid (Below.step HAL.out HAL.out.size hb1)
      have c0 := Below.keeps_cell hb1 HC0.out
      have c1 := Below.keeps_cell hb1 HC1.out
      clear hb1
      go_wp2_with fail
      refine (HF.out _).mono ?_
      rintro e w2 ⟨u2, vs2, rfl, hr2, hb2⟩
      have R2 := Lib.hid (hr2.mono B1.out.size)
      have B2 := Lib.hid (Below.step B1.out B1.out.size hb2)
      clear hr2 hb2
      go_wp2
      go_ret2
      exact ⟨u2, vs2, rfl, R2.out, B2.out⟩
    · have hS' : okS W b = false := by simpa using hS
      rw [hS', if_neg (by simp)]
      clear hS
      go_enter Try.func75, Try.ntmps75
      go_wp2_with fail
      refine (isValid_any _ _ _).mono ?_
      rw [hS']
      rintro e w1 ⟨rfl, hb1⟩
      have B1 := Lib.hid (Below.step HAL.out HAL.out.size hb1)
      clear hb1
      go_wp2
      go_ret2
      exact ⟨_, [], rfl, LLi.nil _ _, B1.out⟩)
  go_enter Try.func36, Try.ntmps36
  go_wp2_with fail
  refine (HASK.out _).mono ?_
  rintro e w1 ⟨u, vs, rfl, hr, hb1⟩
  have R1 := Lib.hid hr
  have B1 := Lib.hid hb1
  clear hr hb1
  go_wp2
  go_ret2
  exact ⟨u, vs, rfl, R1.out, B1.out⟩

theorem spec_AllGaps (W b : Int) (w : World) :
    Calls Try.prog 35 #[.int .i64 W, .int .i64 b] w fun e w' => ∃ u vs, e = .returned (.tuple #[u, .bool (OK_AllGaps W b)]) ∧ LLi w' w.heap.size u vs (LF_AllGaps W b) ∧ Below w.heap.size w w' := by
  have HV := Lib.hid (show LF_AllGaps W b = (if okS W b = true then ndr (W.toNat / 2) (b.toNat - 1) else []) from rfl)
  rw [HV.out, OK_AllGaps]
  by_cases hS : okS W b = true
  · rw [hS, if_pos rfl]
    obtain ⟨V, M, rfl, rfl, h1, h2, h3, h4⟩ := okS_nat hS
    have HF := Lib.hid (fun w' => gpAll_any (V / 2) (V / 2) M [] (.slice none 0 0) 0 w' (Rd.nil _ _) (by simp) (by omega) h4)
    have HE := Lib.hid (show (ndr (V / 2) M).map (fun l => [] ++ l) = ndr (V / 2) M by simp)
    rw [HE.out] at HF
    rw [show (V : Int).toNat / 2 = V / 2 by omega, show (((M + 1 : Nat) : Int)).toNat - 1 = M by omega]
    obtain ⟨b, hb⟩ : ∃ b : Int, b = ((M + 1 : Nat) : Int) := ⟨_, rfl⟩
    have hb1 : 1 ≤ b := by omega
    have hb2 : b ≤ 16 := by omega
    have HM := Lib.hid (show b - 1 = (M : Int) by omega)
    have HK := Lib.hid (show (V : Int) / 2 = ((V / 2 : Nat) : Int) by omega)
    rw [← hb] at hS
    rw [← hb]
    clear hb
    go_enter Try.func35, Try.ntmps35
    go_wp2_with (go_at_call 73; refine (gpAsked_any _ _ _).mono ?_; rw [hS]; rintro e w1 ⟨rfl, rfl⟩)
    rw [HM.out, HK.out]
    refine (HF.out _).mono ?_
    rintro e w2 ⟨u2, vs2, rfl, hr2, hb2⟩
    have R2 := Lib.hid hr2
    have B2 := Lib.hid hb2
    clear hr2 hb2
    go_wp2
    go_ret2
    exact ⟨u2, vs2, rfl, R2.out, B2.out⟩
  · have hS' : okS W b = false := by simpa using hS
    rw [hS', if_neg (by simp)]
    clear hS
    go_enter Try.func35, Try.ntmps35
    go_wp2_with (go_at_call 73; refine (gpAsked_any _ _ _).mono ?_; rw [hS']; rintro e w1 ⟨rfl, rfl⟩)
    go_ret2
    exact ⟨_, [], rfl, LLi.nil _ _, Below.refl _ _⟩

end Go.Proofs.Ytegclfohkjemgaa
