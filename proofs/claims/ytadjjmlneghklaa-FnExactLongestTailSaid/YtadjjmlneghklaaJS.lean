/-
  Answers of AllGaps.
-/
import Derived.Test.YtadjjmlneghklaaJR
namespace Go.Proofs.Ytadjjmlneghklaa
open Go.RowKit
set_option linter.unusedVariables false
set_option linter.unusedSimpArgs false
set_option maxRecDepth 100000

theorem offZ_bd {Z : Nat → List Int} (h : ∀ i, (Z i).length ≤ 40000) : ∀ i, 0 ≤ offZ 1 Z i ∧ offZ 1 Z i ≤ 1 + 40000 * i
  | 0 => by simp [offZ]
  | i + 1 => by
    have := offZ_bd h i
    have := h i
    simp only [offZ]
    push_cast
    omega
theorem Und.apartOld {w : World} {C : Nat} {v x : Value} {vs : List Value} {xs : List Int} (h : Und C v vs) (hx : Rd w C x xs) : ∀ (i : Nat) (u : Value), vs[i]? = some u → u.ownBlock = none ∨ u.ownBlock ≠ x.ownBlock := LLi.far h hx
theorem LLf.apartNew {w : World} {B : Nat} {v x : Value} {vs : List Value} {Z : Nat → List Int} (h : LLf w B v vs Z) (hx : ∀ k, x.ownBlock = some k → k < B) : ∀ (i : Nat) (u : Value), vs[i]? = some u → u.ownBlock = none ∨ u.ownBlock ≠ x.ownBlock := fun i u hu => by
  cases hq : u.ownBlock with
  | none => exact .inl rfl
  | some k =>
    right
    intro e
    have h1 := ((h.at' i u hu).lt k hq).1
    have h2 := hx k e.symm
    omega
theorem lsZ_len {ls : List (List Int)} {n : Nat} (h : ∀ l ∈ ls, l.length ≤ n) (i : Nat) : (lsZ ls i).length ≤ n := by
  unfold lsZ
  rw [List.getD_eq_getElem?_getD]
  cases hq : ls[i]? with
  | none => simp
  | some l => exact h l (List.mem_of_getElem? hq)

theorem okS_nat {W b : Int} (h : okS W b = true) : ∃ V M : Nat, W = (V : Int) ∧ b = ((M + 1 : Nat) : Int) ∧ 1 ≤ V ∧ V ≤ 8 ∧ 1 ≤ M ∧ M ≤ 15 := by
  obtain ⟨⟨l1, l8⟩, b2, b16⟩ := okS_iff.1 h
  exact ⟨W.toNat, b.toNat - 1, by omega, by omega, by omega, by omega, by omega, by omega⟩

abbrev OK_AllGaps (W b : Int) : Bool := okS W b
def LF_AllGaps (W b : Int) : List (List Int) := if okS W b = true then ndr (W.toNat / 2) (b.toNat - 1) else []
theorem LF_AllGaps_bd (W b : Int) : (LF_AllGaps W b).length ≤ 40000 ∧ ∀ i, (lsZ (LF_AllGaps W b) i).length ≤ 40000 := by
  unfold LF_AllGaps
  by_cases h : okS W b = true
  · obtain ⟨V, M, rfl, rfl, h1, h2, h3, h4⟩ := okS_nat h
    rw [if_pos h]
    have h5 := ndr_bd (k := ((V : Int)).toNat / 2) (m := (((M + 1 : Nat) : Int)).toNat - 1) (by omega) (by omega)
    exact ⟨by omega, lsZ_len (fun l hl => by rw [ndr_all _ _ l hl]; omega)⟩
  · rw [if_neg h]; exact ⟨by simp, fun i => by simp [lsZ]⟩

theorem allGaps_any (V M : Nat) (w : World) (hV : V ≤ 8) (hM : M ≤ 15) :
    Calls Try.prog 65 #[shp (V : Int) ((M + 1 : Nat) : Int)] w fun e w' => ∃ u vs, e = .returned u ∧ LLi w' w.heap.size u vs (ndr (V / 2) M) ∧ Below w.heap.size w w' := by
  obtain ⟨b, hb⟩ : ∃ b : Int, b = ((M + 1 : Nat) : Int) := ⟨_, rfl⟩
  rw [← hb]
  have HAL := Lib.hid (alloc_below w (.cells #[.int .i64 (V : Int), .int .i64 b] 45))
  have HC0 := Lib.hid (show (w.alloc (.cells #[.int .i64 (V : Int), .int .i64 b] 45)).cell? ⟨w.heap.size, 0, none⟩ = some (.int .i64 (V : Int)) by simp [go_sem])
  have HC1 := Lib.hid (show (w.alloc (.cells #[.int .i64 (V : Int), .int .i64 b] 45)).cell? ⟨w.heap.size, 1, none⟩ = some (.int .i64 b) by simp [go_sem])
  have HCG := Lib.hid (fun w' => countGaps_any V b w' hV)
  have HLT := Lib.hid (fun w' => ltr_any (V / 2) M w' (by omega) hM)
  have hwq : IntKind.i64.wrap (b - 1) = (M : Int) := by rw [IntWalk.i64_in _ (by omega)]; omega
  obtain ⟨k, hk⟩ : ∃ k : Nat, k = V / 2 := ⟨_, rfl⟩
  rw [← hk] at HCG HLT
  rw [← hk]
  clear hk hb
  go_enter Try.func65, Try.ntmps65
  go_wp2
  obtain ⟨w2, hw2⟩ : ∃ w2, w2 = (w.alloc (.cells #[.int .i64 (V : Int), .int .i64 b] 45)) := ⟨_, rfl⟩
  rw [← hw2] at HAL HC0 HC1
  rw [← hw2]
  clear hw2
  have e0 : w2.drew.cell? ⟨w.heap.size, 0, none⟩ = some (.int .i64 (V : Int)) := HC0.out
  have e1 : w2.drew.cell? ⟨w.heap.size, 1, none⟩ = some (.int .i64 b) := HC1.out
  have B2 := Lib.hid (show Below w.heap.size w w2.drew from HAL.out.drew)
  go_region_held3 (fun w' => w'.cell? ⟨w.heap.size, 0, none⟩ = some (.int .i64 (V : Int)) ∧ w'.cell? ⟨w.heap.size, 1, none⟩ = some (.int .i64 b)) (first | exact ⟨e0, e1⟩ | exact ⟨f0, f1⟩ | exact ⟨g0, g1⟩) (first
    | (go_at_call 76; refine (HCG.out _).mono ?_; rintro e w3 ⟨rfl, hb3⟩; have B3 := Lib.hid (Below.step B2.out B2.out.size hb3); have f0 := Below.keeps_cell hb3 e0; have f1 := Below.keeps_cell hb3 e1; clear hb3)
    | (go_at_call 75; refine (HLT.out _).mono ?_; rintro e w5 ⟨u5, vs5, rfl, hr5, hb5⟩; have R5 := Lib.hid (hr5.mono B3.out.size); have B5 := Lib.hid (Below.step B3.out B3.out.size hb5); have g0 := Below.keeps_cell hb5 f0; have g1 := Below.keeps_cell hb5 f1; clear hr5 hb5))
  go_wp2
  go_ret
  exact ⟨u5, vs5, rfl, R5.out, B5.out⟩

end Go.Proofs.Ytadjjmlneghklaa
