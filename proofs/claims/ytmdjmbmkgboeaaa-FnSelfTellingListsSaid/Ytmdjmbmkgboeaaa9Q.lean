/-
  Runs of said lists and their lengths: the program's and the model's answers (written by wip/tools/gen_9q.py).
-/
import Derived.Test.Ytmdjmbmkgboeaaa9P
namespace Go.Proofs.Ytmdjmbmkgboeaaa
open Go.RowKit
set_option linter.unusedVariables false
set_option linter.unusedSimpArgs false
set_option maxRecDepth 100000

theorem LLi.far {w : World} {D : Nat} {v u : Value} {vs : List Value} {xs : List Int} (hd : Und D v vs) (hu : Rd w D u xs) : ∀ (i : Nat) (z : Value), vs[i]? = some z → z.ownBlock = none ∨ z.ownBlock ≠ u.ownBlock := fun i z hz => by
  cases hq : z.ownBlock with
  | none => exact .inl rfl
  | some k =>
    right
    intro e
    have h1 := (hu.lt k e.symm).1
    have h2 := hd.2 i z hz k hq
    omega
theorem Und.apartOld {w : World} {C : Nat} {v x : Value} {vs : List Value} {xs : List Int} (h : Und C v vs) (hx : Rd w C x xs) : ∀ (i : Nat) (u : Value), vs[i]? = some u → u.ownBlock = none ∨ u.ownBlock ≠ x.ownBlock := LLi.far h hx
theorem LLf.apartNew {w : World} {B : Nat} {v x : Value} {vs : List Value} {Z : Nat → List Int} (h : LLf w B v vs Z) (hx : ∀ k, x.ownBlock = some k → k < B) : ∀ (i : Nat) (u : Value), vs[i]? = some u → u.ownBlock = none ∨ u.ownBlock ≠ x.ownBlock := fun i u hu => by
  cases hq : u.ownBlock with
  | none => exact .inl rfl
  | some k =>
    right
    intro e
    have h1 := ((h.at' i u hu).lt k hq).1
    have h2 := hx k e.symm
    omega
theorem lsZ_len {ls : List (List Int)} {n : Nat} (h : ∀ l ∈ ls, l.length ≤ n) (i : Nat) : (lsZ ls i).length ≤ n := by
  unfold lsZ
  rw [List.getD_eq_getElem?_getD]
  cases hq : ls[i]? with
  | none => simp
  | some l => exact h l (List.mem_of_getElem? hq)
theorem offZ_bd {Z : Nat → List Int} (h : ∀ i, (Z i).length ≤ 40000) : ∀ i, 0 ≤ offZ 1 Z i ∧ offZ 1 Z i ≤ 1 + 40000 * i
  | 0 => by simp [offZ]
  | i + 1 => by
    have h1 := offZ_bd h i
    have h2 := h i
    simp only [offZ]
    omega

/-- The lists of a run. -/
def rnL (xs : List Int) (k : Nat) : List (List Int) := (List.range (k + 1)).map fun j => snF j xs
theorem rnL_len (xs : List Int) (k : Nat) : (rnL xs k).length = k + 1 := by simp [rnL]
theorem rnL_zero (xs : List Int) : rnL xs 0 = [xs] := rfl
theorem rnL_succ (xs : List Int) (k : Nat) : rnL xs (k + 1) = rnL xs k ++ [snF (k + 1) xs] := by simp [rnL, List.range_succ]
theorem rnL_at (xs : List Int) (k j : Nat) (h : j < (rnL xs k).length) : (rnL xs k)[j] = snF j xs := by simp [rnL]
/-- None of the first k said lists is too long. -/
def shB (xs : List Int) (k : Nat) : Bool := (List.range k).all fun j => decide ((snF (j + 1) xs).length ≤ 400)
theorem shB_iff (xs : List Int) (k : Nat) : shB xs k = true ↔ ∀ j, j < k → (snF (j + 1) xs).length ≤ 400 := by
  unfold shB
  simp [List.all_eq_true]
theorem shB_succ (xs : List Int) (k : Nat) : shB xs (k + 1) = (shB xs k && decide ((snF (k + 1) xs).length ≤ 400)) := by
  unfold shB
  rw [List.range_succ, List.all_append]
  simp
theorem shB_no {xs : List Int} {j k : Nat} (hj : j < k) (h : ¬ (snF (j + 1) xs).length ≤ 400) : shB xs k = false := by
  rw [← Bool.not_eq_true, shB_iff]
  exact fun c => h (c j hj)
theorem sn_short {xs : List Int} (h0 : xs.length ≤ 400) {k : Nat} (h : shB xs k = true) : ∀ j, j ≤ k → (snF j xs).length ≤ 400
  | 0, _ => h0
  | j + 1, hj => (shB_iff xs k).1 h j (by omega)
theorem gdW_len {xs : List Int} (h : gdW xs = true) : xs.length ≤ 400 := by
  unfold gdW at h
  simp only [Bool.and_eq_true, decide_eq_true_eq] at h
  exact h.1
theorem toSay_gd {xs : List Int} (h : toSay xs = true) : gdW xs = true ∧ n9 (strs xs) = true := by
  unfold toSay at h
  simpa using h
theorem rn_in {xs : List Int} (h0 : xs.length ≤ 400) {k : Nat} (h : shB xs k = true) : ∀ l ∈ rnL xs k, l.length ≤ 40000 := by
  intro l hl
  unfold rnL at hl
  obtain ⟨j, hj, rfl⟩ := List.mem_map.1 hl
  have := sn_short h0 h j (by have := List.mem_range.1 hj; omega)
  omega

def RunR (xs : List Int) (s : Int) : Prop := toSay xs = true ∧ 0 ≤ s ∧ s ≤ 30 ∧ shB xs s.toNat = true
instance (xs : List Int) (s : Int) : Decidable (RunR xs s) := by unfold RunR; infer_instance
def OK_SayRun (xs : List Int) (s : Int) : Bool := decide (RunR xs s)
def LF_SayRun (xs : List Int) (s : Int) : List (List Int) := if RunR xs s then rnL xs s.toNat else []
theorem LF_SayRun_bd (xs : List Int) (s : Int) : (LF_SayRun xs s).length ≤ 40000 ∧ ∀ i, (lsZ (LF_SayRun xs s) i).length ≤ 40000 := by
  unfold LF_SayRun
  split
  · rename_i h
    obtain ⟨h1, h2, h3, h4⟩ := h
    refine ⟨by rw [rnL_len]; omega, lsZ_len (rn_in (gdW_len (toSay_gd h1).1) h4)⟩
  · exact ⟨by simp, fun i => by simp [lsZ]⟩
theorem RunR_no {xs : List Int} {s : Int} (h : ¬ RunR xs s) : OK_SayRun xs s = false ∧ LF_SayRun xs s = [] := ⟨decide_eq_false h, if_neg h⟩

theorem clone_rd (v : Value) (xs : List Int) (w : World) (B : Nat) (h : Rd w B v xs) (hl : xs.length ≤ 2000000) :
    Calls Try.prog 65 #[v] w fun e w' => ∃ u, e = .returned u ∧ Rd w' w.heap.size u xs ∧ Below w.heap.size w w' := by
  rcases h.cases with ⟨rfl, rfl⟩ | ⟨g, cap, rfl, _⟩
  · have hnil := fun (w : World) => Lib.run_eql_slice_nil (P := Try.prog) w 24 3 none 0 0 0 0 Try.underlying24
    go_enter Try.func65, Try.ntmps65
    go_wp2
    go_ret
    exact ⟨_, rfl, Rd.nil _ _, Below.refl _ _⟩
  · exact clone_any g xs.length cap xs w B h hl


theorem impl_SayRun (v : Value) (xs : List Int) (s : Int) (B : Nat) (w : World) (h : Rd w B v xs) (hl : xs.length ≤ 1048576) :
    Calls Try.prog 16 #[v, .int .i64 s] w fun e w' => ∃ u vs, e = .returned (.tuple #[u, .bool (OK_SayRun xs s)]) ∧ LLi w' w.heap.size u vs (LF_SayRun xs s) ∧ Below w.heap.size w w' := by
  have H := Lib.hid h
  have HI := Lib.hid (fun w' (h : Sl w' v xs) => isToSay_any v xs w' h (by omega))
  obtain ⟨a, cap, rfl⟩ := h.sl.len
  cases hq : toSay xs with
  | false =>
    obtain ⟨e1, e2⟩ := RunR_no (xs := xs) (s := s) (fun c => by have := c.1; rw [hq] at this; cases this)
    rw [e1, e2]
    rw [hq] at HI
    clear hq h e1 e2
    go_enter Try.func16, Try.ntmps16
    go_wp2_with (go_at_call 55; refine (HI.out _ H.out.sl).mono ?_; rintro e w1 ⟨rfl, hb⟩; have HB := Lib.hid hb; clear hb)
    go_ret2
    exact ⟨_, _, rfl, LLi.nil _ _, HB.out⟩
  | true =>
    rw [hq] at HI
    by_cases h0 : s < 0
    · obtain ⟨e1, e2⟩ := RunR_no (xs := xs) (s := s) (fun c => by have := c.2.1; omega)
      rw [e1, e2]
      clear hq h e1 e2
      go_enter Try.func16, Try.ntmps16
      go_wp2_with (go_at_call 55; refine (HI.out _ H.out.sl).mono ?_; rintro e w1 ⟨rfl, hb⟩; have HB := Lib.hid hb; clear hb)
      go_ret2
      exact ⟨_, _, rfl, LLi.nil _ _, HB.out⟩
    · by_cases h30 : 30 < s
      · obtain ⟨e1, e2⟩ := RunR_no (xs := xs) (s := s) (fun c => by have := c.2.2.1; omega)
        rw [e1, e2]
        clear hq h e1 e2
        go_enter Try.func16, Try.ntmps16
        go_wp2_with (go_at_call 55; refine (HI.out _ H.out.sl).mono ?_; rintro e w1 ⟨rfl, hb⟩; have HB := Lib.hid hb; clear hb)
        go_ret2
        exact ⟨_, _, rfl, LLi.nil _ _, HB.out⟩
      · obtain ⟨K, rfl⟩ : ∃ K : Nat, s = (K : Int) := ⟨s.toNat, by omega⟩
        have HT := Lib.hid (fun k (hk : shB xs k = true) => sn_toSay hq k ((shB_iff xs k).1 hk))
        have h4 := gdW_len (toSay_gd hq).1
        have HYes := Lib.hid (fun (c : shB xs K = true) => show OK_SayRun xs (K : Int) = true ∧ LF_SayRun xs (K : Int) = rnL xs K from ⟨decide_eq_true ⟨hq, by omega, by omega, c⟩, if_pos ⟨hq, by omega, by omega, c⟩⟩)
        have HNo := Lib.hid (fun (c : shB xs K = false) => RunR_no (xs := xs) (s := (K : Int)) (fun d => by have := d.2.2.2; rw [Int.toNat_natCast, c] at this; cases this))
        have HSn := Lib.hid (fun k (hk : shB xs k = true) j hj => sn_short h4 hk j hj)
        obtain ⟨N, hN⟩ : ∃ N, N = xs.length := ⟨_, rfl⟩
        rw [← hN] at HI H hl h4 ⊢
        have HNN := Lib.hid hN
        have hK : K ≤ 30 := by omega
        clear hq h hN
        go_enter Try.func16, Try.ntmps16
        go_wp2_with (first | (go_at_call 55; refine (HI.out _ H.out.sl).mono ?_; rintro e w1 ⟨rfl, hb⟩; have HB := Lib.hid hb; have H1 := Lib.hid (H.out.keep hb); clear hb) | (go_at_call 65; refine (clone_rd _ xs _ B H1.out (by have := HNN.out; omega)).mono ?_; rintro e w2 ⟨u, rfl, hr, hb⟩; have R1 := Lib.hid (hr.mono HB.out.size); have B1 := Lib.hid (Below.step HB.out HB.out.size hb); obtain ⟨au, cu, rfl⟩ := hr.sl.len; clear hr hb))
        go_loopw [6, 25] (fun o i wr => ∃ (j : Nat) (vs : List Value), j ≤ K ∧ i = .int .i64 (j : Int) ∧ LLi wr w.heap.size o vs (rnL xs j) ∧ Hid (shB xs j = true) ∧ Below w.heap.size w wr) (fun _ i _ => K - (intOf i).toNat)
        case atStart => exact ⟨0, [_], Nat.zero_le _, rfl, LLi.one _ _ _ _ R1.out B1.out.size, Lib.hid rfl, Below.step B1.out B1.out.size (alloc_below w2 _)⟩
        case round =>
          obtain ⟨j, vs, hj, rfl, hll, HSh, hbl⟩ := hrel
          have HLL := Lib.hid hll
          have HB3 := Lib.hid hbl
          by_cases hlt : j < K
          · obtain ⟨z, g, c, hz, hv, hcell, hrz⟩ := hll.get j (by rw [rnL_len]; omega)
            rw [rnL_len] at hv
            rw [rnL_at] at hrz
            have RZ := Lib.hid hrz
            have hlz := HSn.out j HSh.out j (Nat.le_refl _)
            have HSay := Lib.hid (fun w' (h : Sl w' z (snF j xs)) => say_sl z (snF j xs) w' h (by omega))
            have hts := HT.out j HSh.out
            have HOk := Lib.hid (show OK_SayWord (snF j xs) = decide ((snF (j + 1) xs).length ≤ 400) by unfold OK_SayWord okS; rw [hts]; rfl)
            have HSc := Lib.hid (shB_succ xs j)
            have HRs := Lib.hid (rnL_succ xs j)
            have HRl := Lib.hid (rnL_len xs j)
            rw [HOk.out] at HSay
            have HLv := Lib.hid (show vs.length ≤ 31 by rw [hll.len, rnL_len]; omega)
            subst hv
            obtain ⟨az, cz, hzv⟩ := hrz.sl.len
            subst hzv
            by_cases hle : (snF (j + 1) xs).length ≤ 400
            · rw [decide_eq_true hle] at HSay
              have HLF := Lib.hid (show LF_SayWord (snF j xs) = snF (j + 1) xs by
                have h5 := HOk.out
                rw [decide_eq_true hle] at h5
                exact if_pos h5)
              rw [HLF.out] at HSay
              have HSh2 := Lib.hid (show shB xs (j + 1) = true by rw [HSc.out, HSh.out, decide_eq_true hle]; rfl)
              clear hll hbl hrz hts hz
              go_wp2_with (first | (go_at_call 9; refine (HSay.out _ RZ.out.sl).mono ?_; rintro e w3 ⟨u1, rfl, hr1, hb3⟩; have L3 := Lib.hid (HLL.out.keep hb3); have B3 := Lib.hid (Below.step HB3.out HB3.out.size hb3); have FAR := Lib.hid (HLL.out.farN (Nat.le_refl _) hr1); have R3 := Lib.hid (hr1.mono HB3.out.size); obtain ⟨a1, c1, rfl⟩ := hr1.sl.len; clear hr1 hb3) | (at_builtin; refine wpList_appG rfl (.tmp 38) (.tmp 40) 31 24 (.slice none 0 0) 24 Try.underlying31 infoL (by omega) rfl rfl w.heap.size w.heap.size _ _ vs _ rfl rfl (L3.out.row.alloc _) (Rg.lit _ _ _ _ B3.out.size) (by simp [Value.oneCell']) (by have := HLv.out; simp; omega) (by have h1 := B3.out.size; simp; omega) ?_; intro v4 w4 hr4 hg4 hb4; have L4 := Lib.hid (L3.out.snoc R3.out FAR.out hr4 hg4); have B4 := Lib.hid ((B3.out.alloc B3.out.size _).trans hb4); clear hr4 hg4 hb4))
              go_roundw
              case rel => exact ⟨j + 1, _, by omega, by go_num, by rw [HRs.out]; exact L4.out, HSh2, B4.out⟩
              case measure => simp [intOf]; omega
            · rw [decide_eq_false hle] at HSay
              obtain ⟨e1, e2⟩ := HNo.out (shB_no hlt hle)
              have E1 := Lib.hid e1
              have E2 := Lib.hid e2
              clear hll hbl hrz hts hz hle e1 e2
              go_wp2_with (go_at_call 9; refine (HSay.out _ RZ.out.sl).mono ?_; rintro e w3 ⟨u1, rfl, hr1, hb3⟩; have B3 := Lib.hid (Below.step HB3.out HB3.out.size hb3); clear hr1 hb3)
              go_ret2
              exact ⟨_, [], by rw [E1.out]; rfl, by rw [E2.out]; exact LLi.nil _ _, B3.out⟩
          · obtain rfl : j = K := by omega
            obtain ⟨e1, e2⟩ := HYes.out HSh.out
            have E1 := Lib.hid e1
            have E2 := Lib.hid e2
            clear hll hbl e1 e2
            go_wp2
            go_ret2
            exact ⟨_, vs, by rw [E1.out]; rfl, by rw [E2.out]; exact HLL.out, HB3.out⟩

end Go.Proofs.Ytmdjmbmkgboeaaa
