/-
  Answers of AddedRun (written by wip/tools/gen_rvty.py).
-/
import Derived.Test.YteadgaecjoenlaaTX
namespace Go.Proofs.Yteadgaecjoenlaa
open Go.RowKit
set_option linter.unusedVariables false
set_option linter.unusedSimpArgs false
set_option maxRecDepth 100000

theorem LLi.und {w : World} {B : Nat} {v : Value} {vs : List Value} {ls : List (List Int)} (h : LLi w B v vs ls) : Und w.heap.size v vs :=
  ⟨fun k hk => (h.row.lt k hk).2, fun i u hu k hk => by obtain ⟨l, _, hr⟩ := h.rd hu; exact (hr.lt k hk).2⟩
theorem LLi.far {w : World} {D : Nat} {v u : Value} {vs : List Value} {xs : List Int} (hd : Und D v vs) (hu : Rd w D u xs) : ∀ (i : Nat) (z : Value), vs[i]? = some z → z.ownBlock = none ∨ z.ownBlock ≠ u.ownBlock := fun i z hz => by
  cases hq : z.ownBlock with
  | none => exact .inl rfl
  | some k =>
    right
    intro e
    have h1 := (hu.lt k e.symm).1
    have h2 := hd.2 i z hz k hq
    omega
theorem offZ_bd {Z : Nat → List Int} (h : ∀ i, (Z i).length ≤ 40000) : ∀ i, 0 ≤ offZ 1 Z i ∧ offZ 1 Z i ≤ 1 + 40000 * i
  | 0 => by simp [offZ]
  | i + 1 => by
    have := offZ_bd h i
    have := h i
    simp only [offZ]
    push_cast
    omega
theorem Und.apartOld {w : World} {C : Nat} {v x : Value} {vs : List Value} {xs : List Int} (h : Und C v vs) (hx : Rd w C x xs) : ∀ (i : Nat) (u : Value), vs[i]? = some u → u.ownBlock = none ∨ u.ownBlock ≠ x.ownBlock := LLi.far h hx
theorem LLf.apartNew {w : World} {B : Nat} {v x : Value} {vs : List Value} {Z : Nat → List Int} (h : LLf w B v vs Z) (hx : ∀ k, x.ownBlock = some k → k < B) : ∀ (i : Nat) (u : Value), vs[i]? = some u → u.ownBlock = none ∨ u.ownBlock ≠ x.ownBlock := fun i u hu => by
  cases hq : u.ownBlock with
  | none => exact .inl rfl
  | some k =>
    right
    intro e
    have h1 := ((h.at' i u hu).lt k hq).1
    have h2 := hx k e.symm
    omega
theorem lsZ_len {ls : List (List Int)} {n : Nat} (h : ∀ l ∈ ls, l.length ≤ n) (i : Nat) : (lsZ ls i).length ≤ n := by
  unfold lsZ
  rw [List.getD_eq_getElem?_getD]
  cases hq : ls[i]? with
  | none => simp
  | some l => exact h l (List.mem_of_getElem? hq)

def okAR (xs : List Int) (b m : Int) : Bool := okR b xs && okM m
abbrev OK_AddedRun (xs : List Int) (b m : Int) : Bool := okAR xs b m
def LF_AddedRun (xs : List Int) (b m : Int) : List (List Int) := if okAR xs b m = true then rvR b m.toNat xs else []
theorem okAR_yes {xs : List Int} {b m : Int} (h1 : okR b xs = true) (h2 : okM m = true) : okAR xs b m = true := by unfold okAR; rw [h1, h2]; rfl
theorem okAR_no1 {xs : List Int} {b m : Int} (h1 : okR b xs = false) : okAR xs b m = false := by unfold okAR; rw [h1]; rfl
theorem okAR_no2 {xs : List Int} {b m : Int} (h1 : okM m = false) : okAR xs b m = false := by unfold okAR; rw [h1]; simp
theorem LFR_yes {xs : List Int} {b m : Int} (h : okAR xs b m = true) : LF_AddedRun xs b m = rvR b m.toNat xs := if_pos h
theorem LFR_no {xs : List Int} {b m : Int} (h : okAR xs b m = false) : LF_AddedRun xs b m = [] := if_neg (by rw [h]; simp)

theorem LF_AddedRun_bd (xs : List Int) (b m : Int) : (LF_AddedRun xs b m).length ≤ 40000 ∧ ∀ i, (lsZ (LF_AddedRun xs b m) i).length ≤ 40000 := by
  by_cases h : okAR xs b m = true
  · rw [LFR_yes h]
    unfold okAR at h
    rw [Bool.and_eq_true] at h
    have hm := of_decide_eq_true h.2
    have hd := okR_dg h.1
    refine ⟨by have := (rvR_len b m.toNat xs).2; omega, lsZ_len fun l hl => ?_⟩
    have := (rvR_all (most := m.toNat) hd l hl).l40
    omega
  · rw [LFR_no (by simpa using h)]
    exact ⟨by simp, fun i => by simp [lsZ]⟩

theorem impl_AddedRun (v : Value) (xs : List Int) (b m : Int) (B : Nat) (w : World) (h : Rd w B v xs) (hl : xs.length ≤ 1048576) :
    Calls Try.prog 30 #[v, .int .i64 b, .int .i64 m] w fun e w' => ∃ u vs, e = .returned (.tuple #[u, .bool (OK_AddedRun xs b m)]) ∧ LLi w' w.heap.size u vs (LF_AddedRun xs b m) ∧ Below w.heap.size w w' := by
  have H := Lib.hid h
  obtain ⟨a, cap, rfl⟩ := h.sl.len
  clear h
  unfold OK_AddedRun
  rcases okR_cases b xs with ⟨ho, hd⟩ | ho
  · have HO := Lib.hid ho
    have HD := Lib.hid hd
    by_cases hm : okM m = true
    · have HM := Lib.hid hm
      have ha := okAR_yes ho hm
      rw [LFR_yes ha, ha]
      obtain ⟨k, rfl, hk⟩ := okM_nat hm
      rw [Int.toNat_natCast]
      obtain ⟨L, hL⟩ : ∃ L, L = rvR b k xs := ⟨_, rfl⟩
      have HRT := Lib.hid (fun g cap w' (h : Rd w' w.heap.size (.slice (some ⟨g, 0, none⟩) xs.length cap) xs) (hD : w.heap.size ≤ w'.heap.size) => runUpTo_any g cap xs b k w.heap.size w' h hD hd hk)
      have HLN := Lib.hid (rvR_len b k xs)
      rw [← hL] at HRT HLN
      rw [← hL]
      clear hL ho hd hm ha
      go_enter Try.func30, Try.ntmps30
      go_wp2_with fail
      refine (long_yes _ _ _ _ _ H.out hl HO.out).mono ?_
      rintro e w1 ⟨g1, cap1, rfl, hr, hb1⟩
      have R1 := Lib.hid hr
      have B1 := Lib.hid hb1
      have HAL := Lib.hid (alloc_below w1 (.cells #[.slice (some ⟨g1, 0, none⟩) xs.length cap1, .int .i64 b] 49))
      have R2 := Lib.hid (R1.out.keep HAL.out)
      have B2 := Lib.hid (Below.step B1.out B1.out.size HAL.out)
      clear hr hb1
      go_wp2_with fail
      refine (areTimes_any _ _).mono ?_
      rw [HM.out]
      rintro e w2 ⟨rfl, rfl⟩
      go_wp2_with fail
      refine (HRT.out g1 cap1 _ R2.out B2.out.size).mono ?_
      rintro e w3 ⟨vs, ls, cur, g', c', al, cl, rfl, hlf, hrd, hfar, heq, hdg, hb3⟩
      have B3 := Lib.hid (Below.step B2.out B2.out.size hb3)
      have HEQ := Lib.hid heq
      have hls : ls.length ≤ 100 := by
        have := HLN.out.2
        rw [← heq, List.length_append, List.length_singleton] at this
        omega
      have LF := Lib.hid hlf
      have RD := Lib.hid hrd
      have FAR := Lib.hid hfar
      clear hlf hrd hfar heq hdg hb3
      go_wp2_with fail
      refine (runLists_any g' c' cur b al cl _ _ vs ls _ LF.out RD.out FAR.out B3.out.size hls).mono ?_
      rw [HEQ.out]
      rintro e w4 ⟨u, us, rfl, hll, hb4⟩
      have LL := Lib.hid hll
      have B4 := Lib.hid (Below.step B3.out B3.out.size hb4)
      clear hll hb4
      go_wp2
      go_ret2
      exact ⟨_, us, rfl, LL.out, B4.out⟩
    · have hm' : okM m = false := by simpa using hm
      have HM := Lib.hid hm'
      rw [LFR_no (okAR_no2 hm'), okAR_no2 hm']
      clear ho hd hm hm'
      go_enter Try.func30, Try.ntmps30
      go_wp2_with fail
      refine (long_yes _ _ _ _ _ H.out hl HO.out).mono ?_
      rintro e w1 ⟨g1, cap1, rfl, hr, hb1⟩
      have B1 := Lib.hid hb1
      clear hr hb1
      go_wp2_with fail
      refine (areTimes_any _ _).mono ?_
      rw [HM.out]
      rintro e w2 ⟨rfl, rfl⟩
      go_wp2
      go_ret2
      exact ⟨_, [], rfl, LLi.nil _ _, Below.step B1.out B1.out.size (alloc_below w1 _)⟩
  · have HO := Lib.hid ho
    rw [LFR_no (okAR_no1 ho), okAR_no1 ho]
    clear ho
    go_enter Try.func30, Try.ntmps30
    go_wp2_with fail
    refine (long_no _ _ _ _ _ H.out hl HO.out).mono ?_
    rintro e w1 ⟨rfl, hb1⟩
    have B1 := Lib.hid hb1
    clear hb1
    go_wp2
    go_ret2
    exact ⟨_, [], rfl, LLi.nil _ _, Below.step B1.out B1.out.size (alloc_below w1 _)⟩

theorem spec_AddedRun (v : Value) (xs : List Int) (b m : Int) (B : Nat) (w : World) (h : Rd w B v xs) (hl : xs.length ≤ 1048576) :
    Calls Try.prog 29 #[v, .int .i64 b, .int .i64 m] w fun e w' => ∃ u vs, e = .returned (.tuple #[u, .bool (OK_AddedRun xs b m)]) ∧ LLi w' w.heap.size u vs (LF_AddedRun xs b m) ∧ Below w.heap.size w w' := by
  have H := Lib.hid h
  obtain ⟨a, cap, rfl⟩ := h.sl.len
  clear h
  unfold OK_AddedRun
  rcases okR_cases b xs with ⟨ho, hd⟩ | ho
  · have HO := Lib.hid ho
    have HD := Lib.hid hd
    by_cases hm : okM m = true
    · have HM := Lib.hid hm
      have ha := okAR_yes ho hm
      rw [LFR_yes ha, ha]
      obtain ⟨k, rfl, hk⟩ := okM_nat hm
      rw [Int.toNat_natCast]
      obtain ⟨L, hL⟩ : ∃ L, L = rvR b k xs := ⟨_, rfl⟩
      have HRT := Lib.hid (fun w' (h : Rd w' B (.slice a xs.length cap) xs) => rvRun_any _ xs b k B w' h hd hk)
      rw [← hL] at HRT
      rw [← hL]
      clear hL ho hd hm ha
      go_enter Try.func29, Try.ntmps29
      go_wp2_with (first
        | (go_at_call 46; go_loud (refine (rvGood_any _ _ _ _ _ H.out hl).mono ?_; rw [HO.out]; rintro e w1 ⟨rfl, rfl⟩))
        | (go_at_call 57; go_loud (refine (rvMost_any _ _).mono ?_; rw [HM.out]; rintro e w1 ⟨rfl, rfl⟩))
        | (go_at_call 62; go_loud (refine (HRT.out _ H.out).mono ?_; rintro e w1 ⟨g1, c1, vs, rfl, hll, hb1⟩; have LL := Lib.hid hll; have B1 := Lib.hid hb1; clear hb1 hll)))
      go_ret2
      exact ⟨_, vs, rfl, LL.out, B1.out⟩
    · have hm' : okM m = false := by simpa using hm
      have HM := Lib.hid hm'
      rw [LFR_no (okAR_no2 hm'), okAR_no2 hm']
      clear ho hd hm hm'
      go_enter Try.func29, Try.ntmps29
      go_wp2_with (first
        | (go_at_call 46; go_loud (refine (rvGood_any _ _ _ _ _ H.out hl).mono ?_; rw [HO.out]; rintro e w1 ⟨rfl, rfl⟩))
        | (go_at_call 57; go_loud (refine (rvMost_any _ _).mono ?_; rw [HM.out]; rintro e w1 ⟨rfl, rfl⟩)))
      go_ret2
      exact ⟨_, [], rfl, LLi.nil _ _, Below.refl _ _⟩
  · have HO := Lib.hid ho
    rw [LFR_no (okAR_no1 ho), okAR_no1 ho]
    clear ho
    go_enter Try.func29, Try.ntmps29
    go_wp2_with (go_at_call 46; go_loud (refine (rvGood_any _ _ _ _ _ H.out hl).mono ?_; rw [HO.out]; rintro e w1 ⟨rfl, rfl⟩))
    go_ret2
    exact ⟨_, [], rfl, LLi.nil _ _, Below.refl _ _⟩

end Go.Proofs.Yteadgaecjoenlaa
