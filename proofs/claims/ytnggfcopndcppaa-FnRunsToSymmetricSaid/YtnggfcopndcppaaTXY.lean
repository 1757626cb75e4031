/-
  Joint text of TX TY (written by wip/tools/merge.py).
-/
import Derived.Test.YtnggfcopndcppaaTJ
/- from XTX -/
namespace Go.Proofs.Ytnggfcopndcppaa
open Go.RowKit
set_option linter.unusedVariables false
set_option linter.unusedSimpArgs false
set_option maxRecDepth 100000

theorem Rg.litN (e : TypeId) (w : World) (B g : Nat) (u : Value) (hg : w.heap.size = g) (hB : B ≤ w.heap.size) : Rg e (w.alloc (.cells #[u] e)) B (.slice (some ⟨g, 0, none⟩) 1 1) [u] := hg ▸ Rg.lit e w B u hB

theorem Lf.cells {w : World} {B D : Nat} {v : Value} {b : Int} {vs : List Value} {ls : List (List Int)} (h : Lf w B D v b vs ls) (i : Nat) (u : Value) (hu : vs[i]? = some u) : ∃ g cap, v = .slice (some ⟨g, 0, none⟩) vs.length cap ∧ w.cell? ⟨g, i * 2, none⟩ = some u ∧ w.cell? ⟨g, i * 2 + 1, none⟩ = some (.int .i64 b) := by
  have hr := h.row
  have hi := (List.getElem?_eq_some_iff.1 hu).1
  have hf := flatL_at b vs i u hu
  rcases hr.2 with ⟨_, h0⟩ | ⟨g, cap, cur, rfl, hg, hh, hn, hm, hc, ht⟩
  · omega
  · refine ⟨g, cap, rfl, ?_, ?_⟩
    · have hlt : i * 2 < (flatL b vs).length := by rw [flatL_len]; omega
      have := World.ownsRow.cellAt (w := w) (base := B) (e := 56) (size := 2) (n := vs.length) (xs := flatL b vs) (cap := cap) hr (i * 2) (by omega)
      rw [this]; exact hf.1
    · have hlt : i * 2 + 1 < (flatL b vs).length := by rw [flatL_len]; omega
      have := World.ownsRow.cellAt (w := w) (base := B) (e := 56) (size := 2) (n := vs.length) (xs := flatL b vs) (cap := cap) hr (i * 2 + 1) (by omega)
      rw [this]; exact hf.2

theorem LLi.take_snoc {w w' : World} {B k : Nat} {v v' u : Value} {vs : List Value} {ls : List (List Int)} {l : List Int} {o : Obj} (h : LLi w B v (vs.take k) (ls.take k)) (hk : vs[k]? = some u) (hl : ls[k]? = some l) (hu : Rd w B u l) (ha : ∀ (i : Nat) (z : Value), (vs.take k)[i]? = some z → z.ownBlock = none ∨ z.ownBlock ≠ u.ownBlock)
    (hr : Rg 24 w' B v' (vs.take k ++ [u])) (hg : (w.alloc o).grownBy w' v.ownBlock) : LLi w' B v' (vs.take (k + 1)) (ls.take (k + 1)) := by
  have h1 := h.snoc hu ha hr hg
  rwa [show vs.take k ++ [u] = vs.take (k + 1) by rw [List.take_add_one, hk]; rfl, show ls.take k ++ [l] = ls.take (k + 1) by rw [List.take_add_one, hl]; rfl] at h1

theorem runLists_any (g c : Nat) (cur : List Int) (b : Int) (al : Option Addr) (cl B D : Nat) (vs : List Value) (ls : List (List Int)) (w : World) (hlf : Lf w B D (.slice al ls.length cl) b vs ls) (hrd : Rd w D (.slice (some ⟨g, 0, none⟩) cur.length c) cur)
    (hfar : ∀ (i : Nat) (z : Value), vs[i]? = some z → z.ownBlock = none ∨ z.ownBlock ≠ some g) (hD : D ≤ w.heap.size) (hn : ls.length ≤ 100) :
    Calls Try.prog 62 #[.agg #[.slice (some ⟨g, 0, none⟩) cur.length c, .int .i64 b, .slice al ls.length cl]] w fun e w' => ∃ u us, e = .returned u ∧ LLi w' D u us (ls ++ [cur]) ∧ Below w.heap.size w w' := by
  have LF := Lib.hid hlf
  have RC := Lib.hid hrd
  have FAR := Lib.hid hfar
  have HLN := Lib.hid hlf.len
  clear hlf hrd hfar
  obtain ⟨w1, hw1⟩ : ∃ w1, w1 = w.alloc (.cells #[.slice (some ⟨g, 0, none⟩) cur.length c, .int .i64 b, .slice al ls.length cl] 75) := ⟨_, rfl⟩
  have HAL := Lib.hid (show Below w.heap.size w w1 by rw [hw1]; exact alloc_below w _)
  have HC0 := Lib.hid (show w1.cell? ⟨w.heap.size, 0, none⟩ = some (.slice (some ⟨g, 0, none⟩) cur.length c) by rw [hw1]; simp [go_sem])
  have HLT1 := Lib.hid (show w1.heap.size = w.heap.size + 1 by rw [hw1]; simp)
  go_enter Try.func62, Try.ntmps62
  go_wp2
  rw [← hw1]
  clear hw1
  go_loopw [3, 9] (fun o i wr => ∃ k : Nat, k ≤ ls.length ∧ i = .int .i64 (k : Int) ∧ LLi wr D o (vs.take k) (ls.take k) ∧ Rg 24 wr w1.heap.size o (vs.take k) ∧ Below w1.heap.size w1 wr) (fun _ i _ => ls.length - (intOf i).toNat)
  case atStart => exact ⟨0, Nat.zero_le _, rfl, LLi.nil _ _, Rg.nil _ _ _, Below.refl _ _⟩
  case round =>
    obtain ⟨k, hk, rfl, hll, hrow, hb⟩ := hrel
    have ROW := Lib.hid hrow
    have HLL := Lib.hid hll
    have HB := Lib.hid hb
    have HBW := Lib.hid (Below.step HAL.out HAL.out.size hb)
    clear hll hb hrow
    by_cases hlt : k < ls.length
    · obtain ⟨z, hz⟩ : ∃ z, vs[k]? = some z := ⟨vs[k]'(by rw [HLN.out]; exact hlt), by simp⟩
      have LFr := (LF.out.keep HAL.out).keep HB.out
      obtain ⟨l, hl, hrz⟩ := LFr.rd hz
      obtain ⟨gl, capl, hv, hcell0, hcell1⟩ := LFr.cells k z hz
      rw [HLN.out] at hv
      simp only [Value.slice.injEq, true_and] at hv
      obtain ⟨rfl, rfl⟩ := hv
      obtain ⟨az, cz, hzv⟩ := hrz.sl.len
      have HZ := Lib.hid hz
      have HL := Lib.hid hl
      rw [hzv] at hcell0
      rw [hzv] at hrz HZ
      have RZ := Lib.hid hrz
      have HAP := Lib.hid (show ∀ (i : Nat) (y : Value), (vs.take k)[i]? = some y → y.ownBlock = none ∨ y.ownBlock ≠ (Value.slice az l.length cz).ownBlock from fun i y hy => by
        have hi := (List.getElem?_eq_some_iff.1 hy).1
        rw [List.length_take] at hi
        rw [List.getElem?_take, if_pos (by omega)] at hy
        exact LF.out.apart i k y _ (by omega) hy HZ.out)
      have HVL := Lib.hid (show (vs.take k).length ≤ 1000 by rw [List.length_take]; omega)
      have hsz := HB.out.size
      have KA := Lib.hid (alloc_below wr (.cells #[.slice az l.length cz, .int .i64 b] 56))
      have hDw : D ≤ wr.heap.size := Nat.le_trans hD HBW.out.size
      clear hz hl hrz LFr hzv
      have HK1 := Lib.hid (Nat.le_trans hsz KA.out.size)
      have HK2 := Lib.hid (show w1.heap.size ≤ ((wr.alloc (.cells #[.slice az l.length cz, .int .i64 b] 56)).alloc (.cells #[.slice az l.length cz] 24)).heap.size from Nat.le_trans HK1.out (by simp))
      have HDW1 := Lib.hid (show D ≤ w1.heap.size from Nat.le_trans hD HAL.out.size)
      have TKS := Lib.hid (show vs.take k ++ [Value.slice az l.length cz] = vs.take (k + 1) by rw [List.take_add_one, HZ.out]; rfl)
      go_wp2_with (at_builtin; go_loud (refine wpList_appG rfl _ _ 36 24 (.slice none 0 0) 24 Try.underlying36 infoL (by omega) rfl rfl w1.heap.size w1.heap.size _ _ (vs.take k) _ rfl rfl ((ROW.out.keep KA.out).alloc _) (Rg.litN _ _ _ _ _ (by simp) HK1.out) (by simp [Value.oneCell']) (by rw [List.length_singleton]; have := HVL.out; omega) HK2.out ?_; intro v4 w4 hr4 hg4 hb4; have L4 := Lib.hid ((HLL.out.keep KA.out).take_snoc HZ.out HL.out (RZ.out.keep KA.out) HAP.out (hr4.mono HDW1.out) hg4); have ROW4 := Lib.hid (TKS.out ▸ hr4); have B4 := Lib.hid (((Below.step HB.out HB.out.size KA.out).alloc HK1.out _).trans hb4); clear hr4 hg4 hb4))
      go_roundw
      case rel => exact ⟨k + 1, by omega, by go_num, L4.out, ROW4.out, B4.out⟩
      case measure => simp [intOf]; omega
    · obtain rfl : k = ls.length := by omega
      have hvt : vs.take ls.length = vs := List.take_of_length_le (by rw [HLN.out]; exact Nat.le_refl _)
      have hlt' : ls.take ls.length = ls := List.take_of_length_le (Nat.le_refl _)
      have hl0 := HLL.out
      have hr0 := ROW.out
      rw [hvt, hlt'] at hl0
      rw [hvt] at hr0
      have HLL := Lib.hid hl0
      have ROW := Lib.hid hr0
      have RCr := Lib.hid ((RC.out.keep HAL.out).keep HB.out)
      have hc0 := Below.keeps_cell HB.out HC0.out
      have hc1 : wr.cell? ⟨w.heap.size, 0, none⟩ = some (.slice (some ⟨g, 0, none⟩) cur.length c) := hc0
      have HVL := Lib.hid (show vs.length ≤ 1000 by rw [HLN.out]; omega)
      have HDW1 := Lib.hid (show D ≤ w1.heap.size from Nat.le_trans hD HAL.out.size)
      have hsz := Lib.hid HB.out.size
      have HK2 := Lib.hid (show w1.heap.size ≤ (wr.alloc (.cells #[.slice (some ⟨g, 0, none⟩) cur.length c] 24)).heap.size from Nat.le_trans hsz.out (by simp))
      clear hvt hlt' hl0 hr0 hc0
      go_wp2_with (at_builtin; go_loud (refine wpList_appG rfl _ _ 36 24 (.slice none 0 0) 24 Try.underlying36 infoL (by omega) rfl rfl w1.heap.size w1.heap.size _ _ vs _ rfl rfl (ROW.out.alloc _) (Rg.lit _ _ _ _ hsz.out) (by simp [Value.oneCell']) (by rw [List.length_singleton]; have := HVL.out; omega) HK2.out ?_; intro v4 w4 hr4 hg4 hb4; have L4 := Lib.hid (HLL.out.snoc RCr.out FAR.out (hr4.mono HDW1.out) hg4); have B4 := Lib.hid ((HB.out.alloc hsz.out _).trans hb4); clear hr4 hg4 hb4))
      go_ret
      exact ⟨_, _, rfl, L4.out, Below.step HAL.out HAL.out.size B4.out⟩

end Go.Proofs.Ytnggfcopndcppaa

/- from XTY -/
namespace Go.Proofs.Ytnggfcopndcppaa
open Go.RowKit
set_option linter.unusedVariables false
set_option linter.unusedSimpArgs false
set_option maxRecDepth 100000

theorem LLi.und {w : World} {B : Nat} {v : Value} {vs : List Value} {ls : List (List Int)} (h : LLi w B v vs ls) : Und w.heap.size v vs :=
  ⟨fun k hk => (h.row.lt k hk).2, fun i u hu k hk => by obtain ⟨l, _, hr⟩ := h.rd hu; exact (hr.lt k hk).2⟩
theorem LLi.far {w : World} {D : Nat} {v u : Value} {vs : List Value} {xs : List Int} (hd : Und D v vs) (hu : Rd w D u xs) : ∀ (i : Nat) (z : Value), vs[i]? = some z → z.ownBlock = none ∨ z.ownBlock ≠ u.ownBlock := fun i z hz => by
  cases hq : z.ownBlock with
  | none => exact .inl rfl
  | some k =>
    right
    intro e
    have h1 := (hu.lt k e.symm).1
    have h2 := hd.2 i z hz k hq
    omega
theorem offZ_bd {Z : Nat → List Int} (h : ∀ i, (Z i).length ≤ 40000) : ∀ i, 0 ≤ offZ 1 Z i ∧ offZ 1 Z i ≤ 1 + 40000 * i
  | 0 => by simp [offZ]
  | i + 1 => by
    have := offZ_bd h i
    have := h i
    simp only [offZ]
    push_cast
    omega
theorem Und.apartOld {w : World} {C : Nat} {v x : Value} {vs : List Value} {xs : List Int} (h : Und C v vs) (hx : Rd w C x xs) : ∀ (i : Nat) (u : Value), vs[i]? = some u → u.ownBlock = none ∨ u.ownBlock ≠ x.ownBlock := LLi.far h hx
theorem LLf.apartNew {w : World} {B : Nat} {v x : Value} {vs : List Value} {Z : Nat → List Int} (h : LLf w B v vs Z) (hx : ∀ k, x.ownBlock = some k → k < B) : ∀ (i : Nat) (u : Value), vs[i]? = some u → u.ownBlock = none ∨ u.ownBlock ≠ x.ownBlock := fun i u hu => by
  cases hq : u.ownBlock with
  | none => exact .inl rfl
  | some k =>
    right
    intro e
    have h1 := ((h.at' i u hu).lt k hq).1
    have h2 := hx k e.symm
    omega
theorem lsZ_len {ls : List (List Int)} {n : Nat} (h : ∀ l ∈ ls, l.length ≤ n) (i : Nat) : (lsZ ls i).length ≤ n := by
  unfold lsZ
  rw [List.getD_eq_getElem?_getD]
  cases hq : ls[i]? with
  | none => simp
  | some l => exact h l (List.mem_of_getElem? hq)

def okAR (xs : List Int) (b m : Int) : Bool := okR b xs && okM m
abbrev OK_AddedRun (xs : List Int) (b m : Int) : Bool := okAR xs b m
def LF_AddedRun (xs : List Int) (b m : Int) : List (List Int) := if okAR xs b m = true then rvR b m.toNat xs else []
theorem okAR_yes {xs : List Int} {b m : Int} (h1 : okR b xs = true) (h2 : okM m = true) : okAR xs b m = true := by unfold okAR; rw [h1, h2]; rfl
theorem okAR_no1 {xs : List Int} {b m : Int} (h1 : okR b xs = false) : okAR xs b m = false := by unfold okAR; rw [h1]; rfl
theorem okAR_no2 {xs : List Int} {b m : Int} (h1 : okM m = false) : okAR xs b m = false := by unfold okAR; rw [h1]; simp
theorem LFR_yes {xs : List Int} {b m : Int} (h : okAR xs b m = true) : LF_AddedRun xs b m = rvR b m.toNat xs := if_pos h
theorem LFR_no {xs : List Int} {b m : Int} (h : okAR xs b m = false) : LF_AddedRun xs b m = [] := if_neg (by rw [h]; simp)

theorem LF_AddedRun_bd (xs : List Int) (b m : Int) : (LF_AddedRun xs b m).length ≤ 40000 ∧ ∀ i, (lsZ (LF_AddedRun xs b m) i).length ≤ 40000 := by
  by_cases h : okAR xs b m = true
  · rw [LFR_yes h]
    unfold okAR at h
    rw [Bool.and_eq_true] at h
    have hm := of_decide_eq_true h.2
    have hd := okR_dg h.1
    refine ⟨by have := (rvR_len b m.toNat xs).2; omega, lsZ_len fun l hl => ?_⟩
    have := (rvR_all (most := m.toNat) hd l hl).l40
    omega
  · rw [LFR_no (by simpa using h)]
    exact ⟨by simp, fun i => by simp [lsZ]⟩

theorem impl_AddedRun (v : Value) (xs : List Int) (b m : Int) (B : Nat) (w : World) (h : Rd w B v xs) (hl : xs.length ≤ 1048576) :
    Calls Try.prog 23 #[v, .int .i64 b, .int .i64 m] w fun e w' => ∃ u vs, e = .returned (.tuple #[u, .bool (OK_AddedRun xs b m)]) ∧ LLi w' w.heap.size u vs (LF_AddedRun xs b m) ∧ Below w.heap.size w w' := by
  have H := Lib.hid h
  obtain ⟨a, cap, rfl⟩ := h.sl.len
  clear h
  unfold OK_AddedRun
  rcases okR_cases b xs with ⟨ho, hd⟩ | ho
  · have HO := Lib.hid ho
    have HD := Lib.hid hd
    by_cases hm : okM m = true
    · have HM := Lib.hid hm
      have ha := okAR_yes ho hm
      rw [LFR_yes ha, ha]
      obtain ⟨k, rfl, hk⟩ := okM_nat hm
      rw [Int.toNat_natCast]
      obtain ⟨L, hL⟩ : ∃ L, L = rvR b k xs := ⟨_, rfl⟩
      have HRT := Lib.hid (fun g cap w' (h : Rd w' w.heap.size (.slice (some ⟨g, 0, none⟩) xs.length cap) xs) (hD : w.heap.size ≤ w'.heap.size) => runUpTo_any g cap xs b k w.heap.size w' h hD hd hk)
      have HLN := Lib.hid (rvR_len b k xs)
      rw [← hL] at HRT HLN
      rw [← hL]
      clear hL ho hd hm ha
      go_enter Try.func23, Try.ntmps23
      go_wp2_with fail
      refine (long_yes _ _ _ _ _ H.out hl HO.out).mono ?_
      rintro e w1 ⟨g1, cap1, rfl, hr, hb1⟩
      have R1 := Lib.hid hr
      have B1 := Lib.hid hb1
      have HAL := Lib.hid (alloc_below w1 (.cells #[.slice (some ⟨g1, 0, none⟩) xs.length cap1, .int .i64 b] 56))
      have R2 := Lib.hid (R1.out.keep HAL.out)
      have B2 := Lib.hid (Below.step B1.out B1.out.size HAL.out)
      clear hr hb1
      go_wp2_with fail
      refine (areTimes_any _ _).mono ?_
      rw [HM.out]
      rintro e w2 ⟨rfl, rfl⟩
      go_wp2_with fail
      refine (HRT.out g1 cap1 _ R2.out B2.out.size).mono ?_
      rintro e w3 ⟨vs, ls, cur, g', c', al, cl, rfl, hlf, hrd, hfar, heq, hdg, hb3⟩
      have B3 := Lib.hid (Below.step B2.out B2.out.size hb3)
      have HEQ := Lib.hid heq
      have hls : ls.length ≤ 100 := by
        have := HLN.out.2
        rw [← heq, List.length_append, List.length_singleton] at this
        omega
      have LF := Lib.hid hlf
      have RD := Lib.hid hrd
      have FAR := Lib.hid hfar
      clear hlf hrd hfar heq hdg hb3
      go_wp2_with fail
      refine (runLists_any g' c' cur b al cl _ _ vs ls _ LF.out RD.out FAR.out B3.out.size hls).mono ?_
      rw [HEQ.out]
      rintro e w4 ⟨u, us, rfl, hll, hb4⟩
      have LL := Lib.hid hll
      have B4 := Lib.hid (Below.step B3.out B3.out.size hb4)
      clear hll hb4
      go_wp2
      go_ret2
      exact ⟨_, us, rfl, LL.out, B4.out⟩
    · have hm' : okM m = false := by simpa using hm
      have HM := Lib.hid hm'
      rw [LFR_no (okAR_no2 hm'), okAR_no2 hm']
      clear ho hd hm hm'
      go_enter Try.func23, Try.ntmps23
      go_wp2_with fail
      refine (long_yes _ _ _ _ _ H.out hl HO.out).mono ?_
      rintro e w1 ⟨g1, cap1, rfl, hr, hb1⟩
      have B1 := Lib.hid hb1
      clear hr hb1
      go_wp2_with fail
      refine (areTimes_any _ _).mono ?_
      rw [HM.out]
      rintro e w2 ⟨rfl, rfl⟩
      go_wp2
      go_ret2
      exact ⟨_, [], rfl, LLi.nil _ _, Below.step B1.out B1.out.size (alloc_below w1 _)⟩
  · have HO := Lib.hid ho
    rw [LFR_no (okAR_no1 ho), okAR_no1 ho]
    clear ho
    go_enter Try.func23, Try.ntmps23
    go_wp2_with fail
    refine (long_no _ _ _ _ _ H.out hl HO.out).mono ?_
    rintro e w1 ⟨rfl, hb1⟩
    have B1 := Lib.hid hb1
    clear hb1
    go_wp2
    go_ret2
    exact ⟨_, [], rfl, LLi.nil _ _, Below.step B1.out B1.out.size (alloc_below w1 _)⟩

theorem spec_AddedRun (v : Value) (xs : List Int) (b m : Int) (B : Nat) (w : World) (h : Rd w B v xs) (hl : xs.length ≤ 1048576) :
    Calls Try.prog 24 #[v, .int .i64 b, .int .i64 m] w fun e w' => ∃ u vs, e = .returned (.tuple #[u, .bool (OK_AddedRun xs b m)]) ∧ LLi w' w.heap.size u vs (LF_AddedRun xs b m) ∧ Below w.heap.size w w' := by
  have H := Lib.hid h
  obtain ⟨a, cap, rfl⟩ := h.sl.len
  clear h
  unfold OK_AddedRun
  rcases okR_cases b xs with ⟨ho, hd⟩ | ho
  · have HO := Lib.hid ho
    have HD := Lib.hid hd
    by_cases hm : okM m = true
    · have HM := Lib.hid hm
      have ha := okAR_yes ho hm
      rw [LFR_yes ha, ha]
      obtain ⟨k, rfl, hk⟩ := okM_nat hm
      rw [Int.toNat_natCast]
      obtain ⟨L, hL⟩ : ∃ L, L = rvR b k xs := ⟨_, rfl⟩
      have HRT := Lib.hid (fun w' (h : Rd w' B (.slice a xs.length cap) xs) => rvRun_any _ xs b k B w' h hd hk)
      rw [← hL] at HRT
      rw [← hL]
      clear hL ho hd hm ha
      go_enter Try.func24, Try.ntmps24
      go_wp2_with (first
        | (go_at_call 45; go_loud (refine (rvGood_any _ _ _ _ _ H.out hl).mono ?_; rw [HO.out]; rintro e w1 ⟨rfl, rfl⟩))
        | (go_at_call 63; go_loud (refine (rvMost_any _ _).mono ?_; rw [HM.out]; rintro e w1 ⟨rfl, rfl⟩))
        | (go_at_call 64; go_loud (refine (HRT.out _ H.out).mono ?_; rintro e w1 ⟨g1, c1, vs, rfl, hll, hb1⟩; have LL := Lib.hid hll; have B1 := Lib.hid hb1; clear hb1 hll)))
      go_ret2
      exact ⟨_, vs, rfl, LL.out, B1.out⟩
    · have hm' : okM m = false := by simpa using hm
      have HM := Lib.hid hm'
      rw [LFR_no (okAR_no2 hm'), okAR_no2 hm']
      clear ho hd hm hm'
      go_enter Try.func24, Try.ntmps24
      go_wp2_with (first
        | (go_at_call 45; go_loud (refine (rvGood_any _ _ _ _ _ H.out hl).mono ?_; rw [HO.out]; rintro e w1 ⟨rfl, rfl⟩))
        | (go_at_call 63; go_loud (refine (rvMost_any _ _).mono ?_; rw [HM.out]; rintro e w1 ⟨rfl, rfl⟩)))
      go_ret2
      exact ⟨_, [], rfl, LLi.nil _ _, Below.refl _ _⟩
  · have HO := Lib.hid ho
    rw [LFR_no (okAR_no1 ho), okAR_no1 ho]
    clear ho
    go_enter Try.func24, Try.ntmps24
    go_wp2_with (go_at_call 45; go_loud (refine (rvGood_any _ _ _ _ _ H.out hl).mono ?_; rw [HO.out]; rintro e w1 ⟨rfl, rfl⟩))
    go_ret2
    exact ⟨_, [], rfl, LLi.nil _ _, Below.refl _ _⟩

end Go.Proofs.Ytnggfcopndcppaa
