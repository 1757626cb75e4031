/-
  The program's sums of digits with the same backwards.
-/
import Derived.Test.YtnggfcopndcppaaTI
import Derived.Test.YtnggfcopndcppaaTM
namespace Go.Proofs.Ytnggfcopndcppaa
open Go.RowKit
set_option linter.unusedVariables false
set_option linter.unusedSimpArgs false
set_option maxRecDepth 100000

theorem plusReversed_any (g cap : Nat) (xs : List Int) (b : Int) (B : Nat) (w : World) (h : Rd w B (.slice (some ⟨g, 0, none⟩) xs.length cap) xs) (hd : Dg b xs) :
    Calls Try.prog 44 #[lng (.slice (some ⟨g, 0, none⟩) xs.length cap) b] w fun e w' => Below w.heap.size w w' ∧
      (((rvA b xs).length ≤ 40 ∧ ∃ g' cap', e = .returned (.tuple #[lng (.slice (some ⟨g', 0, none⟩) (rvA b xs).length cap') b, .bool true]) ∧ Rd w' w.heap.size (.slice (some ⟨g', 0, none⟩) (rvA b xs).length cap') (rvA b xs)) ∨
       (40 < (rvA b xs).length ∧ e = .returned (.tuple #[lng (.slice none 0 0) 0, .bool false]))) := by
  have H := Lib.hid h
  have HD := Lib.hid hd
  have h1 := hd.l1
  have h40 := hd.l40
  have HAL := Lib.hid (alloc_below w (.cells #[.slice (some ⟨g, 0, none⟩) xs.length cap, .int .i64 b] 56))
  obtain ⟨w1, hw1⟩ : ∃ w1, w1 = (w.alloc (.cells #[.slice (some ⟨g, 0, none⟩) xs.length cap, .int .i64 b] 56)).alloc (.cells #[.slice none 0 0, .int .i64 0] 56) := ⟨_, rfl⟩
  have HA2 := Lib.hid (show Below w.heap.size w w1 by rw [hw1]; exact HAL.out.alloc (by simp) _)
  have HC1 := Lib.hid (show w1.cell? ⟨w.heap.size, 1, none⟩ = some (.int .i64 b) by rw [hw1]; simp [go_sem])
  have HE0 := Lib.hid (show w1.cell? ⟨w.heap.size + 1, 0, none⟩ = some (.slice none 0 0) by rw [hw1]; simp [go_sem])
  have HE1 := Lib.hid (show w1.cell? ⟨w.heap.size + 1, 1, none⟩ = some (.int .i64 0) by rw [hw1]; simp [go_sem])
  have HF := Lib.hid (show ∀ j, w1.frozen? ⟨w.heap.size + 1, j, none⟩ = false from fun j => by rw [hw1]; simp [go_sem])
  have HSZ := Lib.hid (show w1.heap.size = w.heap.size + 2 by rw [hw1]; simp)
  obtain ⟨cc, hcc⟩ : ∃ cc, cc = coA b (smA 1 1 xs) 0 := ⟨_, rfl⟩
  obtain ⟨cc1, cc2⟩ := hd.co
  rw [← hcc] at cc1 cc2
  have HRV := Lib.hid (show rvA b xs = (if 0 < cc then [cc] else []) ++ (dgA b (smA 1 1 xs) 0).reverse by rw [hcc]; rfl)
  have hcl := cyA_len b (smA 1 1 xs) 0
  rw [smA_len] at hcl
  have hlast : (cyA b (smA 1 1 xs) 0)[xs.length - 1]? = some cc := by
    have := cyA_last b (smA 1 1 xs) 0 (fun e => by have h9 := congrArg List.length e; rw [smA_len, List.length_nil] at h9; omega)
    rw [smA_len] at this
    rw [this, hcc]
  have hdl : (dgA b (smA 1 1 xs) 0).reverse.length = xs.length := by rw [List.length_reverse, dgA_len, smA_len]
  obtain ⟨ds, hds⟩ : ∃ ds, ds = (dgA b (smA 1 1 xs) 0).reverse := ⟨_, rfl⟩
  rw [← hds] at hdl HRV
  have HDS := Lib.hid hds
  have HDL := Lib.hid hdl
  have HLA := Lib.hid hlast
  have HCL := Lib.hid hcl
  have HADD := Lib.hid (fun w' (hw : Rd w' B (.slice (some ⟨g, 0, none⟩) xs.length cap) xs) => add_any g cap xs b 1 1 B w' hw hd (.inl rfl) (.inl rfl) (.inl rfl))
  rw [← hds] at HADD
  clear h hd hcc hcl hlast hds hdl
  go_enter Try.func44, Try.ntmps44
  go_wp2_with (go_at_call 92; rw [← hw1]; go_loud (refine (HADD.out _ (H.out.keep HA2.out)).mono ?_; rintro e w2 ⟨g1, g2, rfl, hr1, hr2, hb1⟩; have R1 := Lib.hid hr1; have R2 := Lib.hid hr2; have B2 := Lib.hid (Below.step HA2.out HA2.out.size hb1); have hs2 := hb1.size; rw [HSZ.out] at hs2; have c1 := Below.keeps_cell hb1 HC1.out; have e0 := Below.keeps_cell hb1 HE0.out; have e1 := Below.keeps_cell hb1 HE1.out; have f0 := (below_cells hb1).2 (w.heap.size + 1) 0 (by have := HSZ.out; omega); have f1 := (below_cells hb1).2 (w.heap.size + 1) 1 (by have := HSZ.out; omega); rw [HF.out] at f0 f1; have hlc := hr2.at.2.2.2.2.1 (xs.length - 1) (by rw [HCL.out]; omega); rw [(List.getElem?_eq_some_iff.1 HLA.out).2] at hlc; have hwl : IntKind.i64.wrap ((xs.length : Int) - 1) = ((xs.length - 1 : Nat) : Int) := (by rw [IntWalk.i64_in _ (by omega)]; omega); clear hr1 hr2 hb1))
  · have hrv : rvA b xs = [cc] ++ ds := by rw [HRV.out, if_pos (by omega)]
    have hln : (rvA b xs).length = xs.length + 1 := by rw [hrv, List.length_append, HDL.out, List.length_singleton]; omega
    have HRV2 := Lib.hid hrv
    have HLN := Lib.hid hln
    clear hrv hln
    have K1 := Lib.hid (alloc_below w2 (.cells #[.int .i64 cc] 3))
    have K2 := Lib.hid (K1.out.alloc (by simp) (.cells #[.slice (some ⟨w2.heap.size, 0, none⟩) 1 1, .slice (some ⟨g1, 0, none⟩) xs.length xs.length] 24))
    have hr0 : Rd ((w2.alloc (.cells #[.int .i64 cc] 3)).alloc (.cells #[.slice (some ⟨w2.heap.size, 0, none⟩) 1 1, .slice (some ⟨g1, 0, none⟩) xs.length xs.length] 24)) 0 (.slice (some ⟨w2.heap.size, 0, none⟩) 1 1) [cc] := (Rd.litB w2 0 cc (Nat.zero_le _)).alloc _
    have hr1 : Rd ((w2.alloc (.cells #[.int .i64 cc] 3)).alloc (.cells #[.slice (some ⟨w2.heap.size, 0, none⟩) 1 1, .slice (some ⟨g1, 0, none⟩) xs.length xs.length] 24)) 0 (.slice (some ⟨g1, 0, none⟩) xs.length xs.length) ds := (R1.out.keep K2.out).mono (Nat.zero_le _)
    refine (concatI_any (w2.heap.size + 1) 2 2 (fun i => if i = 0 then .slice (some ⟨w2.heap.size, 0, none⟩) 1 1 else .slice (some ⟨g1, 0, none⟩) xs.length xs.length) (fun i => if i = 0 then [cc] else ds) _ (fun i hi => ?_) (fun i hi => ?_) ?_ (fun i hi => ?_) (by omega)).mono ?_
    · match i, hi with
      | 0, _ => simp [go_sem]
      | 1, _ => simp [go_sem]
    · match i, hi with
      | 0, _ => exact hr0
      | 1, _ => exact hr1
    · simp [jnP]
    · match i, hi with
      | 0, _ => simp [jnP]
      | 1, _ => simp [jnP]
      | 2, _ => simp [jnP, HDL.out]; omega
    · rintro e w3 ⟨v, rfl, hr, hb⟩
      have hj : jnP (fun i => if i = 0 then [cc] else ds) 2 = rvA b xs := by rw [HRV2.out]; rfl
      rw [hj] at hr
      rcases hr.cases with ⟨_, hx⟩ | ⟨g3, cap3, rfl, _⟩
      · have := congrArg List.length hx; rw [HLN.out] at this; simp at this
      rw [HLN.out] at hr ⊢
      have R3 := Lib.hid hr
      have KB := Lib.hid (Below.step K2.out K2.out.size hb)
      have B3 := Lib.hid (Below.step B2.out B2.out.size KB.out)
      have e0' := Below.keeps_cell KB.out e0
      have e1' := Below.keeps_cell KB.out e1
      have c1' := Below.keeps_cell KB.out c1
      have f0' := (below_cells KB.out).2 (w.heap.size + 1) 0 (by omega)
      have f1' := (below_cells KB.out).2 (w.heap.size + 1) 1 (by omega)
      rw [f0] at f0'
      rw [f1] at f1'
      have hgr : ∀ u q, Below w.heap.size w ((w3.setCell ⟨w.heap.size + 1, 0, none⟩ u).setCell ⟨w.heap.size + 1, 1, none⟩ q) := fun u q => (B3.out.setCell (Nat.le_succ _) _).setCell (Nat.le_succ _) _
      have hlt3 := (R3.out.lt g3 rfl).1
      have hszz := K2.out.size
      clear hr hb hj hr0 hr1
      by_cases h41 : 40 < xs.length + 1
      · have h41' : (40:Int) < ((xs.length + 1 : Nat) : Int) := by omega
        go_wp2
        have hsp := set_pair (x0 := .slice none 0 0) (x1 := .int .i64 0) e0' e1'
        refine bodyPost_ret (ret_pair rfl _ _ (w.heap.size + 1) _ _ rfl hsp.1 hsp.2) rfl ⟨hgr _ _, .inr ⟨by rw [HLN.out]; exact h41, rfl⟩⟩
      · have h41' : ¬ (40:Int) < ((xs.length + 1 : Nat) : Int) := by omega
        go_wp2
        have hsp := set_pair (x0 := .slice (some ⟨g3, 0, none⟩) (xs.length + 1) cap3) (x1 := .int .i64 b) e0' e1'
        refine bodyPost_ret (ret_pair rfl _ _ (w.heap.size + 1) _ _ rfl hsp.1 hsp.2) rfl ⟨hgr _ _, .inl ⟨by rw [HLN.out]; omega, g3, cap3, by rw [HLN.out]; rfl, ?_⟩⟩
        rw [HLN.out]
        have hne : (Value.slice (some ⟨g3, 0, none⟩) (xs.length + 1) cap3).ownBlock = none ∨ (Value.slice (some ⟨g3, 0, none⟩) (xs.length + 1) cap3).ownBlock ≠ some (w.heap.size + 1) := .inr (fun e => by
          simp [Value.ownBlock] at e
          omega)
        exact ((R3.out.grown (grown_setCell _ _ _ _) hne).grown (grown_setCell _ _ _ _) hne).mono (by omega)
  · have hsp := set_pair (x0 := .slice (some ⟨g1, 0, none⟩) xs.length xs.length) (x1 := .int .i64 b) e0 e1
    have hgr : ∀ u q, Below w.heap.size w ((w2.setCell ⟨w.heap.size + 1, 0, none⟩ u).setCell ⟨w.heap.size + 1, 1, none⟩ q) := fun u q => (B2.out.setCell (Nat.le_succ _) _).setCell (Nat.le_succ _) _
    have hrv : rvA b xs = ds := by rw [HRV.out, if_neg (by omega)]; rfl
    have hln : (rvA b xs).length = xs.length := by rw [hrv, HDL.out]
    refine bodyPost_ret (ret_pair rfl _ _ (w.heap.size + 1) _ _ rfl hsp.1 hsp.2) rfl ⟨hgr _ _, .inl ⟨by rw [hln]; omega, g1, xs.length, by rw [hln]; rfl, ?_⟩⟩
    have hne : (Value.slice (some ⟨g1, 0, none⟩) xs.length xs.length).ownBlock = none ∨ (Value.slice (some ⟨g1, 0, none⟩) xs.length xs.length).ownBlock ≠ some (w.heap.size + 1) := .inr (fun e => by
      have h9 := (R1.out.lt g1 rfl).1
      simp [Value.ownBlock] at e
      have := HSZ.out
      omega)
    rw [hln, hrv]
    exact ((R1.out.grown (grown_setCell _ _ _ _) hne).grown (grown_setCell _ _ _ _) hne).mono (by have := HSZ.out; omega)

end Go.Proofs.Ytnggfcopndcppaa
