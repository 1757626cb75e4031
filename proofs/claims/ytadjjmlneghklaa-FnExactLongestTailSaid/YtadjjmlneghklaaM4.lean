/-
  Joint text of MV MW (written by wip/tools/merge.py).
-/
import Derived.Test.YtadjjmlneghklaaM3
/- from XMV -/
namespace Go.Proofs.Ytadjjmlneghklaa
open Go.RowKit
set_option linter.unusedVariables false
set_option linter.unusedSimpArgs false
set_option maxRecDepth 100000

theorem nr_of {g : List Int} (h : g.Pairwise (fun a b => b ≤ a)) : nr g = true := by
  unfold nr
  refine decide_eq_true fun i hi h1 => ?_
  have := List.pairwise_iff_getElem.1 h (i - 1) i (by omega) hi (by omega)
  rw [List.getD_eq_getElem?_getD, List.getD_eq_getElem?_getD, List.getElem?_eq_getElem hi, List.getElem?_eq_getElem (show i - 1 < g.length by omega)]
  exact this
theorem ld_sorted (f : Nat → Nat) (n : Nat) (s : Nat → Nat) : (ld f n s).Pairwise (· < ·) := by
  unfold ld
  exact List.Pairwise.filter _ List.pairwise_lt_range
/-- The place of a number among numbers in their order. -/
theorem place {ls : List Nat} (h : ls.Pairwise (· < ·)) (m : Nat) : ∃ idx, idx ≤ ls.length ∧ (∀ t x, t < idx → ls[t]? = some x → x < m) ∧ ∀ t x, idx ≤ t → ls[t]? = some x → m ≤ x := by
  induction ls with
  | nil => exact ⟨0, Nat.le_refl _, fun t x ht => by omega, fun t x _ hx => by simp at hx⟩
  | cons y ys ih =>
    rw [List.pairwise_cons] at h
    by_cases hy : y < m
    · obtain ⟨idx, h1, h2, h3⟩ := ih h.2
      refine ⟨idx + 1, by simp; omega, fun t x ht hx => ?_, fun t x ht hx => ?_⟩
      · cases t with
        | zero => simp at hx; omega
        | succ t => exact h2 t x (by omega) (by simpa using hx)
      · cases t with
        | zero => omega
        | succ t => exact h3 t x (by omega) (by simpa using hx)
    · refine ⟨0, Nat.zero_le _, fun t x ht => by omega, fun t x _ hx => ?_⟩
      cases t with
      | zero => simp at hx; omega
      | succ t =>
        have := h.1 x (List.mem_of_getElem? (i := t) (by simpa using hx))
        omega

theorem infoLV3 : (Try.prog.info? 28).map (fun i => (i.zero, i.size, i.bytes)) = some (some (.slice none 0 0), 1, 24) := by kernel_rfl
theorem addr_addV (g o j : Nat) : (⟨g, o, none⟩ : Addr).add j = ⟨g, o + j, none⟩ := by
  unfold Addr.add; simp
theorem srcG_take {w : World} {e : TypeId} {B g n cap : Nat} {vs : List Value} (h : Rg e w B (.slice (some ⟨g, 0, none⟩) n cap) vs) (q c : Nat) (hq : q ≤ vs.length) : SrcG w (.slice (some ⟨g, 0, none⟩) q c) (vs.take q) := by
  refine .inr ⟨⟨g, 0, none⟩, c, by rw [List.length_take, Nat.min_eq_left hq], fun j hj => ?_⟩
  have hj' : j < q := by rw [List.length_take] at hj; omega
  rw [addr_addV, Nat.zero_add, h.at.2.2.2.2.2.1 j (by omega)]
  simp
theorem srcG_drop {w : World} {e : TypeId} {B g n cap : Nat} {vs : List Value} (h : Rg e w B (.slice (some ⟨g, 0, none⟩) n cap) vs) (q c o m : Nat) (hq : q ≤ vs.length) (ho : q < vs.length → o = q) (hm : m = vs.length - q) :
    SrcG w (.slice (some ⟨g, o, none⟩) m c) (vs.drop q) := by
  refine .inr ⟨⟨g, o, none⟩, c, by rw [List.length_drop, hm], fun j hj => ?_⟩
  have hj' : j < vs.length - q := by simpa using hj
  obtain rfl := ho (by omega)
  rw [addr_addV, h.at.2.2.2.2.2.1 (o + j) (by omega)]
  simp
/-- One step of a drawn region: append of a row's part to an owned row. -/
theorem step_appGS {w : World} {ops : Array Oper} {o : Oper} {a : Act} {K : Act → World → Prop} {Q : Exit → Act → World → Prop} {E : Prop} (hgd : o.guard = none) (s x : Operand) (t e : TypeId) (z : Value) (bytes : Nat)
    (ht : Try.prog.underlying t = some (.slice e)) (hinfo : (Try.prog.info? e).map (fun i => (i.zero, i.size, i.bytes)) = some (some z, 1, bytes)) (hby : bytes ≤ 24) (hz1 : z.cells.size = 1)
    (ho : o.op = .call { callee := .builtin .append, args := #[s, x], argTypes := #[t, t] })
    (B : Nat) (v u : Value) (xs ys : List Value) (hs : a.eval s = v) (hx : a.eval x = u) (hv : Rg e w B v xs) (hu : SrcG w u ys) (h1 : ∀ q ∈ ys, q.oneCell' = true)
    (hlen : xs.length + ys.length ≤ 2000000) (hB : B ≤ w.heap.size)
    (h : ∀ v' w', Rg e w' B v' (xs ++ ys) → w.grownBy w' v.ownBlock → Below B w w' → K (a.put o.dst v') w') :
    if Region.wanted o (yielded ops a.tmps) = true then Oper.wp Try.prog o a w K Q else E := by
  have hw : Region.wanted o (yielded ops a.tmps) = true := by simp [Region.wanted, hgd]
  rw [if_pos hw]
  obtain ⟨i0, hi, hz0, hz2, hz3⟩ := info_parts hinfo
  have hbel : ∀ w', w.grownBy w' v.ownBlock → Below B w w' := fun w' hg => (Below.refl _ _).grown hg hB (fun k hk => (hv.lt k hk).1)
  unfold Oper.wp execOp
  rcases hu with ⟨rfl, rfl⟩ | ⟨ad, cap, rfl, hc⟩
  · have hrun := run_append_owned_none (P := Try.prog) (w := w) B t o.type e i0 1 ht hi v xs.length _ hv
    simp only [ho, resolve, invoke, builtin, Sem.run_bind, Sem.run_pure, Result.andThen_ok, List.map_toArray, List.map_cons, List.map_nil, hs, hx, hrun]
    exact h v w (by simpa using hv) (World.grownBy.refl _ _) (Below.refl _ _)
  · obtain ⟨v', w', hr, h2, h3, _⟩ := run_append_own (P := Try.prog) w B t o.type e i0 z 1 bytes ht hi hz0 hz2 hz3 hz1 (by decide) v xs.length _ hv ad ys.length cap ys (by simp) (fun j q hj => by
      have hj' : j < ys.length := (List.getElem?_eq_some_iff.1 hj).1
      rw [hc j hj', ← hj]
      simp [hj']) h1 (by unfold maxLen; omega) (by have := Nat.mul_le_mul hlen hby; omega) hB
    simp only [ho, resolve, invoke, builtin, Sem.run_bind, Sem.run_pure, Result.andThen_ok, List.map_toArray, List.map_cons, List.map_nil, hs, hx, hr]
    refine h v' w' ?_ h3 (hbel w' h3)
    unfold Rg
    rw [List.length_append]
    exact h2

/-- The cycle in which the run from the word behind list i ends, by the model. -/
theorem gpCycle_wA {V M : Nat} (h1 : 1 ≤ M) (h2 : M ≤ 15) (hV : V ≤ 8) {i : Nat} (hi : i < nA V M) : ∃ m, Lo (fA V M) (nA V M) i m ∧ ∀ (u : Value) (B : Nat) (w : World), Rd w B u (wA V M i) →
    Calls Try.prog 40 #[u, .int .i64 (bA M)] w fun e w' => ∃ u vs, e = .returned u ∧ LLi w' w.heap.size u vs ((rnd (fA V M) (nA V M) m).map (wA V M)) ∧ Below w.heap.size w w' := by
  obtain ⟨u1, u2⟩ := uA_bd h1 h2 hV hi
  have hR := rn_of (V := V) (M := M) (v := (uA V M i).toNat) (b := bA M) rfl h1 h2 hV (by rw [show (((uA V M i).toNat : Nat) : Int) = uA V M i by omega]; exact u2)
  have hF := rn_wA h1 h2 hV hi
  obtain ⟨m, hm, hc⟩ := cyL_wA h1 h2 hV hi _ hF hR
  refine ⟨m, hm, fun u B w h => ?_⟩
  have h3 := gpCycle_any u _ _ _ V (bA M) B w (by rw [hF]; exact h) hR (by unfold bA; omega) (by unfold bA; omega) hV
  rw [hc] at h3
  exact h3

set_option maxHeartbeats 4000000 in
theorem gpCycles_any (V M : Nat) (w : World) (hV : V ≤ 8) (hV1 : 1 ≤ V) (hM1 : 1 ≤ M) (hM : M ≤ 15) :
    Calls Try.prog 25 #[.int .i64 (V : Int), .int .i64 (bA M)] w fun e w' => ∃ u vs, e = .returned u ∧ LLx w' w.heap.size u vs ((cycs (fA V M) (nA V M)).map (fun c => c.map (wA V M))) ∧ Below w.heap.size w w' := by
  have hin := fA_into (V := V) hM1
  have HGA := Lib.hid (fun w' => gpAll_any (V / 2) (V / 2) M [] (.slice none 0 0) 0 w' (Rd.nil _ _) (by simp) (by omega) hM)
  have HE := Lib.hid (show (ndr (V / 2) M).map (fun l => [] ++ l) = ndr (V / 2) M by simp)
  rw [HE.out] at HGA
  obtain ⟨N, hN⟩ : ∃ N, N = nA V M := ⟨_, rfl⟩
  obtain ⟨F, hF⟩ : ∃ F, F = wA V M := ⟨_, rfl⟩
  obtain ⟨f, hf⟩ : ∃ f, f = fA V M := ⟨_, rfl⟩
  obtain ⟨b, hb⟩ : ∃ b, b = bA M := ⟨_, rfl⟩
  have hNb : N ≤ 3876 := by rw [hN]; exact nA_bd hV hM
  have hb2 : 2 ≤ b := by rw [hb]; unfold bA; omega
  have hb16 : b ≤ 16 := by rw [hb]; unfold bA; omega
  have HCY := Lib.hid (show ∀ i, i < N → ∃ m, Lo f N i m ∧ ∀ (u : Value) (B : Nat) (w : World), Rd w B u (F i) → Calls Try.prog 40 #[u, .int .i64 b] w fun e w' => ∃ u vs, e = .returned u ∧ LLi w' w.heap.size u vs ((rnd f N m).map F) ∧ Below w.heap.size w w' from fun i hi => by
    rw [hf, hN, hF, hb]; exact gpCycle_wA hM1 hM hV (by rw [← hN]; exact hi))
  have HBY := Lib.hid (show ∀ (i : Nat) (v : Value) (B : Nat) (w : World), i < N → Rd w B v (gA V M i) → Calls Try.prog 49 #[v, .int .i64 (V : Int), .int .i64 b] w fun e w' => ∃ u, e = .returned u ∧ Rd w' w.heap.size u (F i) ∧ Below w.heap.size w w' from fun i v B w hi h => by
    have hg := gA_of (show i < nA V M by rw [← hN]; exact hi)
    have := gpBy_any v (gA V M i) V b B w h hb2 hb16 hV hg.1 (by rw [hb]; exact hg.2.1) (nr_of hg.2.2)
    rw [hF]
    have e : wd b V (gv b V (gA V M i)) = wA V M i := by rw [hb]; rfl
    rw [e] at this
    exact this)
  have HIN := Lib.hid (show Into f N by rw [hf, hN]; exact hin)
  have HVL := Lib.hid (show ∀ i, i < N → vl b (F i) = uA V M i from fun i hi => by rw [hb, hF]; exact vl_wA hM1 hM hV (by rw [← hN]; exact hi))
  have HUL := Lib.hid (show ∀ i j, i < N → j < N → (uA V M i < uA V M j ↔ i < j) from fun i j hi hj => uA_lt_iff hM1 hM hV (by rw [← hN]; exact hi) (by rw [← hN]; exact hj))
  have HWI := Lib.hid (show ∀ i j, i < N → j < N → F i = F j → i = j from fun i j hi hj h => wA_inj hM1 hM hV (by rw [← hN]; exact hi) (by rw [← hN]; exact hj) (by rw [← hF]; exact h))
  have HFL := Lib.hid (show ∀ j, (F j).length = V from fun j => by rw [hF, wA_len])
  have HFA := Lib.hid (show ∀ j, ∀ x ∈ F j, 0 ≤ x ∧ x ≤ b - 1 from fun j => by rw [hF, hb]; exact wA_all hM1)
  have HGT := Lib.hid (show ∀ i, i < N → (ndr (V / 2) M)[i]? = some (gA V M i) from fun i hi => gA_get (by rw [← hN]; exact hi))
  have HNN := Lib.hid (show (ndr (V / 2) M).length = N by rw [hN]; rfl)
  have HBM := Lib.hid (show b - 1 = (M : Int) by rw [hb]; unfold bA; omega)
  have HK := Lib.hid (show (V : Int) / 2 = ((V / 2 : Nat) : Int) by omega)
  obtain ⟨LS, hLS⟩ : ∃ LS, LS = ndr (V / 2) M := ⟨_, rfl⟩
  rw [← hLS] at HGA HGT HNN
  rw [← hN, ← hF, ← hf, ← hb]
  clear hLS hN hF hf hb hin HE
  go_enter Try.func25, Try.ntmps25
  go_wp2_with fail
  rw [HBM.out, HK.out]
  refine (HGA.out _).mono ?_
  rintro e w1 ⟨ug, vg, rfl, hg, hb1⟩
  have LG := Lib.hid hg
  have B1 := Lib.hid hb1
  have HVG := Lib.hid (show vg.length = N by rw [hg.len, HNN.out])
  obtain ⟨ag, cg, rfl⟩ := hg.row.lenR HVG.out
  clear hg hb1
  go_wp2
  go_loopw [5, 20] (fun o i wr => ∃ (k : Nat) (vs : List Value), k ≤ N ∧ i = .int .i64 (k : Int) ∧ LLx wr w1.heap.size o vs ((ld f N (sk f N k)).map fun m => (rnd f N m).map F) ∧ Below w1.heap.size w1 wr) (fun _ i _ => N - (intOf i).toNat)
  case atStart => exact ⟨0, [], Nat.zero_le _, rfl, by rw [ld_start]; exact LLx.nil _ _, Below.refl _ _⟩
  case round =>
    obtain ⟨k, vs, hk, rfl, hlx, hbl⟩ := hrel
    have LX := Lib.hid hlx
    have HB := Lib.hid hbl
    have LGr := Lib.hid (LG.out.keep hbl)
    obtain ⟨ls, hls⟩ : ∃ ls, ls = ld f N (sk f N k) := ⟨_, rfl⟩
    have HLS := Lib.hid hls
    rw [← hls] at LX
    have HVS := Lib.hid (show vs.length = ls.length by rw [LX.out.len, List.length_map])
    have hlsN : ls.length ≤ N := by rw [hls]; exact ld_len f N _
    obtain ⟨a5, c5, rfl⟩ := hlx.row.lenR HVS.out
    clear hlx hbl hls
    by_cases hlt : k < N
    · obtain ⟨z, hz⟩ : ∃ z, vg[k]? = some z := ⟨vg[k]'(by rw [HVG.out]; exact hlt), by simp⟩
      obtain ⟨gg, rfl⟩ : ∃ gg, ag = some ⟨gg, 0, none⟩ := by
        rcases LGr.out.row.cases with ⟨he, h0⟩ | ⟨g0, c0, he⟩
        · simp only [Value.slice.injEq] at he; omega
        · simp only [Value.slice.injEq] at he; exact ⟨g0, he.1⟩
      have hcell : wr.cell? ⟨gg, k, none⟩ = some z := LGr.out.f.cell hz
      have hrz := LGr.out.at' k z _ hz (HGT.out k hlt)
      have HRZ := Lib.hid hrz
      obtain ⟨az, cz, rfl⟩ := hrz.shape'
      obtain ⟨m0, hlo, hcy⟩ := HCY.out k hlt
      have HLO := Lib.hid hlo
      have HCK := Lib.hid hcy
      clear hz hrz hlo hcy
      go_wp2_with (first
        | (go_at_call 49; refine (HBY.out k _ _ _ hlt HRZ.out).mono ?_; rintro e w2 ⟨u2, rfl, hr2, hb2⟩; have R2 := Lib.hid hr2; have B2 := Lib.hid (Below.step HB.out HB.out.size hb2); have LX2 := Lib.hid (LX.out.keep hb2); clear hr2 hb2)
        | (go_at_call 40; refine (HCK.out _ _ _ R2.out).mono ?_; rintro e w3 ⟨u3, vs3, rfl, hl3, hb3⟩; have HV3 := Lib.hid (show vs3.length = per f N m0 by rw [hl3.len, List.length_map, rnd_len]); obtain ⟨a8, c8, rfl⟩ := hl3.row.lenR HV3.out; have L3 := Lib.hid hl3;  have B3 := Lib.hid (Below.step B2.out B2.out.size hb3); have LX3 := Lib.hid (LX2.out.keep hb3); clear hl3 hb3))
      obtain ⟨P, hP⟩ : ∃ P, P = per f N m0 := ⟨_, rfl⟩
      have hP0 : 0 < P := by rw [hP]; unfold per; omega
      have HP3 := Lib.hid (show vs3.length = P by rw [HV3.out, hP])
      obtain ⟨g8, rfl⟩ : ∃ g8, a8 = some ⟨g8, 0, none⟩ := by
        rcases L3.out.row.cases with ⟨he, h0⟩ | ⟨g0, c0, he⟩
        · rw [h0] at HP3; have := HP3.out; simp at this; omega
        · simp only [Value.slice.injEq] at he; exact ⟨g0, he.1⟩
      have HC0 := Lib.hid (show ∀ (m : Nat) (u : Value) (us : List Value) (w' : World) (B : Nat), LLi w' B u us ((rnd f N m).map F) → ∃ (g : Nat) (p c : Nat) (a : Option Addr) (d : Nat), u = .slice (some ⟨g, 0, none⟩) p c ∧ 0 < p ∧ w'.cell? ⟨g, 0, none⟩ = some (.slice a V d) ∧ Rd w' B (.slice a V d) (F m) from fun m u us w' B h => by
        have hl : us.length = per f N m := by rw [h.len, List.length_map, rnd_len]
        have hpp : 0 < per f N m := by unfold per; omega
        obtain ⟨y, hy⟩ : ∃ y, us[0]? = some y := ⟨us[0]'(by omega), by simp⟩
        have hr := h.at' 0 y (F m) hy (by rw [List.getElem?_map, show (rnd f N m)[0]? = some m from by unfold rnd; simp [hpp, it]]; rfl)
        rcases h.row.cases with ⟨he, h0⟩ | ⟨g0, c0, he⟩
        · rw [h0] at hl; simp at hl; omega
        · have hc : w'.cell? ⟨g0, 0, none⟩ = some y := by
            subst he
            have := h.row.at.2.2.2.2.2.1 0 (by omega)
            rw [this]; rw [List.getElem?_eq_getElem (by omega)] at hy; simpa using hy
          obtain ⟨a, d, rfl⟩ := hr.shape'
          rw [HFL.out] at hr hc
          exact ⟨g0, us.length, c0, a, d, he, by omega, hc, hr⟩)
      obtain ⟨g8', p8, c8', a3, d3, he3, hp3, hcm3, hrm3⟩ := HC0.out m0 _ vs3 w3 _ L3.out
      simp only [Value.slice.injEq, Option.some.injEq, Addr.mk.injEq, and_true, true_and] at he3
      obtain ⟨rfl, rfl, rfl⟩ := he3
      have HM3 := Lib.hid hrm3
      have HMC := Lib.hid hcm3
      clear hrm3 hcm3
      obtain ⟨idx, hidx, hlo1, hhi1⟩ := place (by have := ld_sorted f N (sk f N k); rwa [← HLS.out] at this : ls.Pairwise (· < ·)) m0
      have HI1 := Lib.hid hlo1
      have HI2 := Lib.hid hhi1
      have HMEM := Lib.hid (show ∀ t x, ls[t]? = some x → x < N from fun t x hx => (ld_mem (by rw [← HLS.out]; exact List.mem_of_getElem? hx)).1)
      have hm0N : m0 < N := cyc_lt HIN.out ((lead_iff HIN.out).1 HLO.out.1).1
      obtain ⟨n, hn⟩ : ∃ n, n = ls.length := ⟨_, rfl⟩
      have HNL := Lib.hid hn
      rw [← hn]
      rw [← hn] at hidx hlsN LX3 HVS
      clear hlo1 hhi1 hn
      go_loopw [9, 10, 32] (fun at' kn i wt => ∃ (t : Nat) (q : Bool), t ≤ n ∧ i = .int .i64 (t : Int) ∧ at' = .int .i64 ((if t ≤ idx then t else idx : Nat) : Int) ∧ kn = .bool q ∧ (q = true ↔ ∃ t', t' < t ∧ ls[t']? = some m0) ∧ Below w3.heap.size w3 wt) (fun _ _ i _ => n - (intOf i).toNat)
      case atStart => exact ⟨0, false, Nat.zero_le _, rfl, (by rw [if_pos (Nat.zero_le _)]; rfl), rfl, ⟨fun h => (by cases h), fun ⟨t', h, _⟩ => (by omega)⟩, Below.refl _ _⟩
      case round =>
        rename World => wt
        obtain ⟨t, q, ht, rfl, rfl, rfl, hq, hbt⟩ := hrel
        have HQ := Lib.hid hq
        have HBt := Lib.hid hbt
        have hcm := Below.keeps_cell hbt HMC.out
        have HMr := Lib.hid (HM3.out.keep hbt)
        clear hq hbt
        obtain ⟨at0, hat⟩ : ∃ at0 : Nat, at0 = if t ≤ idx then t else idx := ⟨_, rfl⟩
        have HAT := Lib.hid hat
        rw [← hat]
        have hat9 : at0 ≤ 3876 := by rw [hat]; split <;> omega
        clear hat
        by_cases htn : t < n
        · obtain ⟨zt, hzt⟩ : ∃ z, vs[t]? = some z := ⟨vs[t]'(by rw [HVS.out]; exact htn), by simp⟩
          obtain ⟨x, hx⟩ : ∃ x, ls[t]? = some x := ⟨ls[t]'(by rw [← HNL.out]; exact htn), by simp⟩
          have hxN := HMEM.out t x hx
          have LXt := Lib.hid (LX3.out.keep HBt.out)
          obtain ⟨g5, rfl⟩ : ∃ g5, a5 = some ⟨g5, 0, none⟩ := by
            rcases LXt.out.row.cases with ⟨he, h0⟩ | ⟨g0, c0, he⟩
            · simp only [Value.slice.injEq] at he; omega
            · simp only [Value.slice.injEq] at he; exact ⟨g0, he.1⟩
          have hct : wt.cell? ⟨g5, t, none⟩ = some zt := by
            have h1 := LXt.out.row.at.2.2.2.2.2.1 t (by rw [HVS.out]; exact htn)
            rw [h1]; rw [List.getElem?_eq_getElem (by rw [HVS.out]; exact htn)] at hzt; simpa using hzt
          obtain ⟨us, hus⟩ := LXt.out.at' t zt _ hzt (show (ls.map fun m => (rnd f N m).map F)[t]? = some ((rnd f N x).map F) by rw [List.getElem?_map, hx]; rfl)
          obtain ⟨gz, pz, cz', azz, dz, rfl, hpz, hcz, hrz⟩ := HC0.out x zt us wt _ hus
          have HZr := Lib.hid hrz
          have HR := Lib.hid (show decide (F x = F m0) = decide (x = m0) from by
            by_cases e : x = m0
            · subst e; simp
            · rw [decide_eq_false e, decide_eq_false (fun h => e (HWI.out x m0 hxN hm0N h))])
          have HSM := Lib.hid (fun (w' : World) (h : Sl w' (.slice azz V dz) (F x)) (h2 : Sl w' (.slice a3 V d3) (F m0)) => l1Same_any _ _ (F x) (F m0) w' h h2 (by rw [HFL.out]; omega) (by rw [HFL.out]; omega))
          rw [HR.out] at HSM
          have HV1 := Lib.hid (fun (w' : World) (h : Sl w' (.slice azz V dz) (F x)) => gpValue_any (.slice azz V dz) (F x) b w' h hb2 hb16 (HFA.out x) (by rw [HFL.out]; exact hV))
          have HV2 := Lib.hid (fun (w' : World) (h : Sl w' (.slice a3 V d3) (F m0)) => gpValue_any (.slice a3 V d3) (F m0) b w' h hb2 hb16 (HFA.out m0) (by rw [HFL.out]; exact hV))
          rw [HVL.out x hxN] at HV1
          rw [HVL.out m0 hm0N] at HV2
          have hcmp := HUL.out x m0 hxN hm0N
          obtain ⟨vx, hvx⟩ : ∃ vx, vx = uA V M x := ⟨_, rfl⟩
          obtain ⟨vm, hvm⟩ : ∃ vm, vm = uA V M m0 := ⟨_, rfl⟩
          rw [← hvx] at HV1 hcmp
          rw [← hvm] at HV2 hcmp
          have HCMP := Lib.hid hcmp
          have HXT := Lib.hid hx
          obtain ⟨r, hr⟩ : ∃ r, r = decide (x = m0) := ⟨_, rfl⟩
          have HRR := Lib.hid hr
          rw [← hr] at HSM
          have HQ2 := Lib.hid (show ((q || r) = true ↔ ∃ t', t' < t + 1 ∧ ls[t']? = some m0) from by
            rw [Bool.or_eq_true, HQ.out, HRR.out, decide_eq_true_eq]
            constructor
            · rintro (⟨t', h1, h2⟩ | rfl)
              · exact ⟨t', by omega, h2⟩
              · exact ⟨t, by omega, HXT.out⟩
            · rintro ⟨t', h1, h2⟩
              by_cases e : t' = t
              · subst e; rw [HXT.out] at h2; right; simpa using h2
              · exact .inl ⟨t', by omega, h2⟩)
          have HATY := Lib.hid (show vx < vm → at0 + 1 = (if t + 1 ≤ idx then t + 1 else idx) from fun h => by
            have h1 := HCMP.out.1 h
            have h2 : t < idx := by
              by_cases e : t < idx
              · exact e
              · have := HI2.out t x (by omega) HXT.out; omega
            rw [HAT.out, if_pos (by omega), if_pos (by omega)])
          have HATN := Lib.hid (show ¬ vx < vm → at0 = (if t + 1 ≤ idx then t + 1 else idx) from fun h => by
            have h2 : ¬ t < idx := fun e => h (HCMP.out.2 (HI1.out t x e HXT.out))
            rw [HAT.out]
            split <;> split <;> omega)
          clear hzt hx hus hrz hcmp hr hvx hvm
          cases hqq : q
          · subst hqq
            simp only [Bool.false_or] at HQ2
            have HZd := Lib.hid (HZr.out.drew.sl)
            have HMd := Lib.hid (HMr.out.drew.sl)
            have e0 : wt.drew.cell? ⟨gz, 0, none⟩ = some (.slice azz V dz) := hcz
            have e1 : wt.drew.cell? ⟨g8, 0, none⟩ = some (.slice a3 V d3) := hcm
            go_wp2
            go_region_held3 (fun w' => w'.cell? ⟨gz, 0, none⟩ = some (.slice azz V dz) ∧ w'.cell? ⟨g8, 0, none⟩ = some (.slice a3 V d3)) (first | exact ⟨e0, e1⟩ | exact ⟨f0, f1⟩) (first
              | (go_at_call 34; refine (HSM.out _ HZd.out HMd.out).mono ?_; rintro e w4 ⟨rfl, hb4⟩; have f0 := Below.keeps_cell hb4 e0; have f1 := Below.keeps_cell hb4 e1; have HZ4 := Lib.hid (HZr.out.drew.keep hb4); have HM4 := Lib.hid (HMr.out.drew.keep hb4); have B4 := Lib.hid (Below.step HBt.out.drew HBt.out.drew.size hb4); clear hb4))
            have HC1 := Lib.hid (show ∀ m, Calls Try.prog 50 #[.slice azz V dz, .int .i64 b] (w4.drewN m) fun e w' => e = .returned (.int .i64 vx) ∧ w' = w4.drewN m from fun m => (HV1.out (w4.drewN m) (HZ4.out.drewN m).sl).mono fun e w' ⟨h1, h2⟩ => ⟨h1, h2.symm⟩)
            have HC2 := Lib.hid (show ∀ m, Calls Try.prog 50 #[.slice a3 V d3, .int .i64 b] (w4.drewN m) fun e w' => e = .returned (.int .i64 vm) ∧ w' = w4.drewN m from fun m => (HV2.out (w4.drewN m) (HM4.out.drewN m).sl).mono fun e w' ⟨h1, h2⟩ => ⟨h1, h2.symm⟩)
            by_cases hxy : vx < vm
            · have HY := Lib.hid (HATY.out hxy)
              go_wp2
              go_quiet (first | (go_at_call 50; first | with_reducible exact Calls.quiet_of_same (HC1.out _) | with_reducible exact Calls.quiet_of_same (HC2.out _)))
              rename_i nq
              go_wp2
              go_roundw
              case rel => exact ⟨t + 1, r, by omega, by go_num, by rw [← HY.out]; go_num, rfl, HQ2.out, below_drewN' B4.out _⟩
              case measure => simp [intOf]; omega
            · have HY := Lib.hid (HATN.out (by omega))
              go_wp2
              go_quiet (first | (go_at_call 50; first | with_reducible exact Calls.quiet_of_same (HC1.out _) | with_reducible exact Calls.quiet_of_same (HC2.out _)))
              rename_i nq
              go_wp2
              go_roundw
              case rel => exact ⟨t + 1, r, by omega, by go_num, by rw [← HY.out], rfl, HQ2.out, below_drewN' B4.out _⟩
              case measure => simp [intOf]; omega
          · subst hqq
            rw [Bool.true_or] at HQ2
            go_wp2
            go_quiet (fail)
            rename Nat => nq0
            obtain ⟨w4, hw4⟩ : ∃ w4, w4 = wt.drewN nq0 := ⟨_, rfl⟩
            have f0 : w4.cell? ⟨gz, 0, none⟩ = some (.slice azz V dz) := by rw [hw4]; exact hcz
            have f1 : w4.cell? ⟨g8, 0, none⟩ = some (.slice a3 V d3) := by rw [hw4]; exact hcm
            have HZ4 := Lib.hid (show Rd w4 _ (.slice azz V dz) (F x) by rw [hw4]; exact HZr.out.drewN nq0)
            have HM4 := Lib.hid (show Rd w4 _ (.slice a3 V d3) (F m0) by rw [hw4]; exact HMr.out.drewN nq0)
            have B4 := Lib.hid (show Below w3.heap.size w3 w4 by rw [hw4]; exact below_drewN' HBt.out _)
            rw [← hw4]
            clear hw4
            have HC1 := Lib.hid (show ∀ m, Calls Try.prog 50 #[.slice azz V dz, .int .i64 b] (w4.drewN m) fun e w' => e = .returned (.int .i64 vx) ∧ w' = w4.drewN m from fun m => (HV1.out (w4.drewN m) (HZ4.out.drewN m).sl).mono fun e w' ⟨h1, h2⟩ => ⟨h1, h2.symm⟩)
            have HC2 := Lib.hid (show ∀ m, Calls Try.prog 50 #[.slice a3 V d3, .int .i64 b] (w4.drewN m) fun e w' => e = .returned (.int .i64 vm) ∧ w' = w4.drewN m from fun m => (HV2.out (w4.drewN m) (HM4.out.drewN m).sl).mono fun e w' ⟨h1, h2⟩ => ⟨h1, h2.symm⟩)
            by_cases hxy : vx < vm
            · have HY := Lib.hid (HATY.out hxy)
              go_wp2
              go_quiet (first | (go_at_call 50; first | with_reducible exact Calls.quiet_of_same (HC1.out _) | with_reducible exact Calls.quiet_of_same (HC2.out _)))
              rename_i nq
              go_wp2
              go_roundw
              case rel => exact ⟨t + 1, true, by omega, by go_num, by rw [← HY.out]; go_num, rfl, (by have h9 := HQ2.out; simpa using h9), below_drewN' B4.out _⟩
              case measure => simp [intOf]; omega
            · have HY := Lib.hid (HATN.out (by omega))
              go_wp2
              go_quiet (first | (go_at_call 50; first | with_reducible exact Calls.quiet_of_same (HC1.out _) | with_reducible exact Calls.quiet_of_same (HC2.out _)))
              rename_i nq
              go_wp2
              go_roundw
              case rel => exact ⟨t + 1, true, by omega, by go_num, by rw [← HY.out], rfl, (by have h9 := HQ2.out; simpa using h9), below_drewN' B4.out _⟩
              case measure => simp [intOf]; omega
        · obtain rfl : n = t := by omega
          have HAI := Lib.hid (show at0 = idx by rw [HAT.out]; split <;> omega)
          cases hqq : q
          · subst hqq
            have HNO := Lib.hid (show sk f N k m0 = 0 from Classical.byContradiction fun h => by
              have h1 : m0 ∈ ls := by rw [HLS.out]; exact mem_ld hm0N HLO.out.1 h
              obtain ⟨t', h2, h3⟩ := List.mem_iff_getElem.1 h1
              have := HQ.out.2 ⟨t', by rw [HNL.out]; exact h2, by rw [List.getElem?_eq_getElem h2, h3]⟩
              cases this)
            have ha0 := HAI.out
            clear HAI
            subst ha0
            have LXt := Lib.hid (LX3.out.keep HBt.out)
            have L3t := Lib.hid (L3.out.keep HBt.out)
            have HIL := Lib.hid (show at0 ≤ vs.length by rw [HVS.out]; exact hidx)
            have HLB := Lib.hid (show vs.length ≤ 3876 by rw [HVS.out]; omega)
            have HONE := Lib.hid (show ∀ q ∈ vs, q.oneCell' = true from fun q hq => by
              obtain ⟨i, hi⟩ := List.mem_iff_getElem?.1 hq
              obtain ⟨l, us, _, hu⟩ := LXt.out.ll hi
              rcases hu.row.cases with ⟨he, _⟩ | ⟨g0, c0, he⟩ <;> (rw [he]; rfl))
            have HLD := Lib.hid (show ld f N (sk f N (k + 1)) = ls.take at0 ++ [m0] ++ ls.drop at0 by
              obtain ⟨i, h1, h2, h3, h4⟩ := ld_new HIN.out HLO.out HNO.out
              rw [← HLS.out] at h2
              have h0 := HNL.out
              have e : i = at0 := by
                rcases Nat.lt_trichotomy i at0 with h | h | h
                · have hi : i < (ld f N (sk f N k)).length := by rw [← HLS.out]; omega
                  have a1 := h4 hi
                  have a2 := HI1.out i _ h (by rw [HLS.out]; exact List.getElem?_eq_getElem hi)
                  omega
                · exact h
                · have hj : at0 < (ld f N (sk f N k)).length := by omega
                  have a1 := h3 at0 hj h
                  have a2 := HI2.out at0 _ (Nat.le_refl _) (by rw [HLS.out]; exact List.getElem?_eq_getElem hj)
                  omega
              rw [h2, e])
            have HFIN := Lib.hid (show ∀ (v' : Value) (w' : World), Below wt.heap.size wt w' → Rg 28 w' wt.heap.size v' (vs.take at0 ++ [.slice (some ⟨g8, 0, none⟩) (per f N m0) c8] ++ vs.drop at0) →
                LLx w' w1.heap.size v' (vs.take at0 ++ [.slice (some ⟨g8, 0, none⟩) (per f N m0) c8] ++ vs.drop at0) ((ld f N (sk f N (k + 1))).map fun m => (rnd f N m).map F) ∧ Below w1.heap.size w1 w' from fun v' w' hb hr => by
              have Bt := Below.step B3.out B3.out.size HBt.out
              refine ⟨?_, Below.step Bt Bt.size hb⟩
              have := LLx.ins (v' := v') LXt.out HIL.out (L3t.out.mono B2.out.size) hb (hr.mono Bt.size)
              rw [HLD.out]
              simpa using this)
            clear HC0 HCY HBY HCK HGA HMEM HI1 HI2
            rcases LXt.out.row.cases with ⟨he, h0⟩ | ⟨g5, c5', he⟩
            · simp only [Value.slice.injEq] at he
              obtain ⟨rfl, hn0, rfl⟩ := he
              have h3 := HIL.out
              rw [h0] at h3
              have h4 : at0 = 0 := by simpa using h3
              subst h4
              subst hn0
              clear h3 h0
              go_wp2_with (at_builtin; refine wpList_appGS rfl (.tmp 62) (.tmp 65) 22 28 (.slice none 0 0) 24 Try.underlying22 infoLV3 (by omega) rfl rfl wt.heap.size _ _ [] (vs.take 0) rfl rfl (rg_empty _ _) (.inl ⟨rfl, by simp⟩) (fun q hq => HONE.out q (List.mem_of_mem_take hq)) (by have := HLB.out; simp <;> omega) (by simp) ?_; intro v1 w5 hr5 hg5 hb5; have R5 := Lib.hid hr5; have B5 := Lib.hid ((Below.alloc (Below.refl wt.heap.size wt) (Nat.le_refl _) _).trans hb5); clear hr5 hg5 hb5)
              have B5d := Lib.hid (show Below wt.heap.size wt w5.drew from B5.out.drew)
              have HLT := Lib.hid (Rg.lit 28 w5.drew wt.heap.size (.slice (some ⟨g8, 0, none⟩) (per f N m0) c8) B5d.out.size)
              have HAP := Lib.hid (show ∀ j (h : j < [Value.slice (some ⟨g8, 0, none⟩) (per f N m0) c8].length), (w5.drew.alloc (.cells #[.slice (some ⟨g8, 0, none⟩) (per f N m0) c8] 28)).cell? ((⟨w5.heap.size, 0, none⟩ : Addr).add j) = some ([Value.slice (some ⟨g8, 0, none⟩) (per f N m0) c8][j]) from fun j h => by rw [addr_addV, Nat.zero_add]; exact HLT.out.at.2.2.2.2.2.1 j h)
              go_region_held3 (fun _ => True) (trivial) (first
                | go_loud (refine step_appGS rfl (.tmp 67) (.tmp 69) 22 28 (.slice none 0 0) 24 Try.underlying22 infoLV3 (by omega) rfl rfl wt.heap.size _ _ _ [.slice (some ⟨g8, 0, none⟩) (per f N m0) c8] rfl rfl (R5.out.drew.alloc _) (.inr ⟨⟨w5.heap.size, 0, none⟩, 1, rfl, HAP.out⟩) (by simp [Value.oneCell']) (by have := HLB.out; simp <;> omega) (by have := B5.out.size; simp <;> omega) ?_; intro v2 w6 hr6 hg6 hb6; have R6 := Lib.hid hr6; have B6 := Lib.hid ((B5d.out.alloc B5d.out.size _).trans hb6); clear hr6 hg6 hb6)
                | go_loud (refine step_appGS rfl (.tmp 70) (.tmp 73) 22 28 (.slice none 0 0) 24 Try.underlying22 infoLV3 (by omega) rfl rfl wt.heap.size _ _ _ (vs.drop 0) rfl rfl R6.out (.inl ⟨rfl, by have h9 := LXt.out.len; have h8 := HVS.out; have h7 : vs = [] := List.length_eq_zero_iff.1 h8; rw [h7]; rfl⟩) (fun q hq => HONE.out q (List.mem_of_mem_drop hq)) (by have := HLB.out; simp <;> omega) B6.out.size ?_; intro v3 w7 hr7 hg7 hb7; have R7 := Lib.hid hr7; have B7 := Lib.hid (B6.out.trans hb7); clear hr7 hg7 hb7))
              go_wp2
              go_roundw
              case rel => exact ⟨k + 1, _, by omega, by go_num, (HFIN.out v3 w7 B7.out (by have h9 := R7.out; simpa using h9)).1, (HFIN.out v3 w7 B7.out (by have h9 := R7.out; simpa using h9)).2⟩
              case measure => simp [intOf]; omega
            · simp only [Value.slice.injEq] at he
              obtain ⟨rfl, hn0, rfl⟩ := he
              have LXr := Lib.hid LXt.out.row
              have hnc : vs.length ≤ c5 := LXr.out.at.2.2.2.1
              rw [HVS.out] at hnc
              have hqc3 : at0 ≤ c5 := by omega
              clear hn0
              by_cases hcl : at0 < c5
              · have hce : ¬ c5 = at0 := by omega
                go_wp2_with (at_builtin; refine wpList_appGS rfl (.tmp 62) (.tmp 65) 22 28 (.slice none 0 0) 24 Try.underlying22 infoLV3 (by omega) rfl rfl wt.heap.size _ _ [] (vs.take at0) rfl rfl (rg_empty _ _) (srcG_take (LXr.out.keep (Below.alloc (Below.refl wt.heap.size wt) (Nat.le_refl _) _)) at0 _ HIL.out) (fun q hq => HONE.out q (List.mem_of_mem_take hq)) (by have := HLB.out; simp <;> omega) (by simp) ?_; intro v1 w5 hr5 hg5 hb5; have R5 := Lib.hid hr5; have B5 := Lib.hid ((Below.alloc (Below.refl wt.heap.size wt) (Nat.le_refl _) _).trans hb5); clear hr5 hg5 hb5)
                have B5d := Lib.hid (show Below wt.heap.size wt w5.drew from B5.out.drew)
                have HLT := Lib.hid (Rg.lit 28 w5.drew wt.heap.size (.slice (some ⟨g8, 0, none⟩) (per f N m0) c8) B5d.out.size)
                have HAP := Lib.hid (show ∀ j (h : j < [Value.slice (some ⟨g8, 0, none⟩) (per f N m0) c8].length), (w5.drew.alloc (.cells #[.slice (some ⟨g8, 0, none⟩) (per f N m0) c8] 28)).cell? ((⟨w5.heap.size, 0, none⟩ : Addr).add j) = some ([Value.slice (some ⟨g8, 0, none⟩) (per f N m0) c8][j]) from fun j h => by rw [addr_addV, Nat.zero_add]; exact HLT.out.at.2.2.2.2.2.1 j h)
                go_region_held3 (fun _ => True) (trivial) (first
                  | go_loud (refine step_appGS rfl (.tmp 67) (.tmp 69) 22 28 (.slice none 0 0) 24 Try.underlying22 infoLV3 (by omega) rfl rfl wt.heap.size _ _ _ [.slice (some ⟨g8, 0, none⟩) (per f N m0) c8] rfl rfl (R5.out.drew.alloc _) (.inr ⟨⟨w5.heap.size, 0, none⟩, 1, rfl, HAP.out⟩) (by simp [Value.oneCell']) (by have := HLB.out; simp <;> omega) (by have := B5.out.size; simp <;> omega) ?_; intro v2 w6 hr6 hg6 hb6; have R6 := Lib.hid hr6; have B6 := Lib.hid ((B5d.out.alloc B5d.out.size _).trans hb6); clear hr6 hg6 hb6)
                  | go_loud (refine step_appGS rfl (.tmp 70) (.tmp 73) 22 28 (.slice none 0 0) 24 Try.underlying22 infoLV3 (by omega) rfl rfl wt.heap.size _ _ _ (vs.drop at0) rfl rfl R6.out (srcG_drop (LXr.out.keep B6.out) at0 _ _ _ HIL.out (fun h => by have h9 := HVS.out; first | rfl | omega) (by have := HVS.out; omega)) (fun q hq => HONE.out q (List.mem_of_mem_drop hq)) (by have := HLB.out; simp <;> omega) B6.out.size ?_; intro v3 w7 hr7 hg7 hb7; have R7 := Lib.hid hr7; have B7 := Lib.hid (B6.out.trans hb7); clear hr7 hg7 hb7))
                go_wp2
                go_roundw
                case rel => exact ⟨k + 1, _, by omega, by go_num, (HFIN.out v3 w7 B7.out (by have h9 := R7.out; simpa using h9)).1, (HFIN.out v3 w7 B7.out (by have h9 := R7.out; simpa using h9)).2⟩
                case measure => simp [intOf]; omega
              · obtain rfl : at0 = c5 := by omega
                obtain rfl : at0 = n := by omega
                go_wp2_with (at_builtin; refine wpList_appGS rfl (.tmp 62) (.tmp 65) 22 28 (.slice none 0 0) 24 Try.underlying22 infoLV3 (by omega) rfl rfl wt.heap.size _ _ [] (vs.take at0) rfl rfl (rg_empty _ _) (srcG_take (LXr.out.keep (Below.alloc (Below.refl wt.heap.size wt) (Nat.le_refl _) _)) at0 _ HIL.out) (fun q hq => HONE.out q (List.mem_of_mem_take hq)) (by have := HLB.out; simp <;> omega) (by simp) ?_; intro v1 w5 hr5 hg5 hb5; have R5 := Lib.hid hr5; have B5 := Lib.hid ((Below.alloc (Below.refl wt.heap.size wt) (Nat.le_refl _) _).trans hb5); clear hr5 hg5 hb5)
                have B5d := Lib.hid (show Below wt.heap.size wt w5.drew from B5.out.drew)
                have HLT := Lib.hid (Rg.lit 28 w5.drew wt.heap.size (.slice (some ⟨g8, 0, none⟩) (per f N m0) c8) B5d.out.size)
                have HAP := Lib.hid (show ∀ j (h : j < [Value.slice (some ⟨g8, 0, none⟩) (per f N m0) c8].length), (w5.drew.alloc (.cells #[.slice (some ⟨g8, 0, none⟩) (per f N m0) c8] 28)).cell? ((⟨w5.heap.size, 0, none⟩ : Addr).add j) = some ([Value.slice (some ⟨g8, 0, none⟩) (per f N m0) c8][j]) from fun j h => by rw [addr_addV, Nat.zero_add]; exact HLT.out.at.2.2.2.2.2.1 j h)
                go_region_held3 (fun _ => True) (trivial) (first
                  | go_loud (refine step_appGS rfl (.tmp 67) (.tmp 69) 22 28 (.slice none 0 0) 24 Try.underlying22 infoLV3 (by omega) rfl rfl wt.heap.size _ _ _ [.slice (some ⟨g8, 0, none⟩) (per f N m0) c8] rfl rfl (R5.out.drew.alloc _) (.inr ⟨⟨w5.heap.size, 0, none⟩, 1, rfl, HAP.out⟩) (by simp [Value.oneCell']) (by have := HLB.out; simp <;> omega) (by have := B5.out.size; simp <;> omega) ?_; intro v2 w6 hr6 hg6 hb6; have R6 := Lib.hid hr6; have B6 := Lib.hid ((B5d.out.alloc B5d.out.size _).trans hb6); clear hr6 hg6 hb6)
                  | go_loud (refine step_appGS rfl (.tmp 70) (.tmp 73) 22 28 (.slice none 0 0) 24 Try.underlying22 infoLV3 (by omega) rfl rfl wt.heap.size _ _ _ (vs.drop at0) rfl rfl R6.out (srcG_drop (LXr.out.keep B6.out) at0 _ _ _ HIL.out (fun h => by have h9 := HVS.out; first | rfl | omega) (by have := HVS.out; omega)) (fun q hq => HONE.out q (List.mem_of_mem_drop hq)) (by have := HLB.out; simp <;> omega) B6.out.size ?_; intro v3 w7 hr7 hg7 hb7; have R7 := Lib.hid hr7; have B7 := Lib.hid (B6.out.trans hb7); clear hr7 hg7 hb7))
                go_wp2
                go_roundw
                case rel => exact ⟨k + 1, _, by omega, by go_num, (HFIN.out v3 w7 B7.out (by have h9 := R7.out; simpa using h9)).1, (HFIN.out v3 w7 B7.out (by have h9 := R7.out; simpa using h9)).2⟩
                case measure => simp [intOf]; omega
          · subst hqq
            have HLD := Lib.hid (show ld f N (sk f N (k + 1)) = ls by
              obtain ⟨t', h1, h2⟩ := HQ.out.1 rfl
              have h3 : m0 ∈ ld f N (sk f N k) := by rw [← HLS.out]; exact List.mem_of_getElem? h2
              rw [ld_old HIN.out HLO.out (ld_mem h3).2.2, HLS.out])
            go_wp2
            go_roundw
            case rel => exact ⟨k + 1, vs, by omega, by go_num, by rw [HLD.out]; exact LX3.out.keep HBt.out, Below.step B3.out B3.out.size HBt.out⟩
            case measure => simp [intOf]; omega
    · obtain rfl : N = k := by omega
      go_wp2
      go_ret
      refine ⟨.slice a5 ls.length c5, vs, rfl, ?_, Below.step B1.out B1.out.size HB.out⟩
      have := LX.out.mono B1.out.size
      rw [HLS.out] at this ⊢
      have e := congrArg (List.map (fun c => c.map F)) (ld_end (f := f) (n := N))
      rw [List.map_map] at e
      rw [← e]
      exact this

end Go.Proofs.Ytadjjmlneghklaa

/- from XMW -/
namespace Go.Proofs.Ytadjjmlneghklaa
open Go.RowKit
set_option linter.unusedVariables false
set_option linter.unusedSimpArgs false
set_option maxRecDepth 100000

/-- A slice of slices by the lists at its places; blocks may be shared. -/
structure LLg (w : World) (B : Nat) (v : Value) (vs : List Value) (Z : Nat → List Int) : Prop where
  row : Rg 33 w B v vs
  at' : ∀ (i : Nat) (u : Value), vs[i]? = some u → Rd w B u (Z i)
theorem LLg.shape {w : World} {B : Nat} {v : Value} {vs : List Value} {Z : Nat → List Int} (h : LLg w B v vs Z) : ∃ a cap, v = .slice a vs.length cap ∧ (vs = [] ∨ ∃ gv, a = some ⟨gv, 0, none⟩) := by
  rcases h.row.cases with ⟨rfl, rfl⟩ | ⟨gv, cv, rfl⟩
  · exact ⟨none, 0, rfl, .inl rfl⟩
  · exact ⟨some ⟨gv, 0, none⟩, cv, rfl, .inr ⟨gv, rfl⟩⟩
theorem LLg.keep {w w' : World} {B : Nat} {v : Value} {vs : List Value} {Z : Nat → List Int} (h : LLg w B v vs Z) (hb : Below w.heap.size w w') : LLg w' B v vs Z :=
  ⟨h.row.keep hb, fun i u hu => (h.at' i u hu).keep hb⟩
theorem LLg.mono {w : World} {B C : Nat} {v : Value} {vs : List Value} {Z : Nat → List Int} (h : LLg w B v vs Z) (hC : C ≤ B) : LLg w C v vs Z :=
  ⟨h.row.mono hC, fun i u hu => (h.at' i u hu).mono hC⟩
theorem LLg.und {w : World} {B : Nat} {v : Value} {vs : List Value} {Z : Nat → List Int} (h : LLg w B v vs Z) : Und w.heap.size v vs :=
  ⟨fun k hk => (h.row.lt k hk).2, fun i u hu k hk => ((h.at' i u hu).lt k hk).2⟩
theorem LLg.keepU {w w' : World} {B C : Nat} {v : Value} {vs : List Value} {Z : Nat → List Int} (h : LLg w B v vs Z) (hu : Und C v vs) (hb : Below C w w') : LLg w' B v vs Z := by
  refine ⟨?_, fun i u hi => (h.at' i u hi).keepB hb (hu.2 i u hi)⟩
  refine ⟨h.row.1, ?_⟩
  rcases h.row.2 with h2 | ⟨g, cap, cur, rfl, hg, hh, r⟩
  · exact .inl h2
  · exact .inr ⟨g, cap, cur, rfl, hg, by rw [hb.block g (hu.1 g rfl)]; exact hh, r⟩
theorem LLg.cell {w : World} {B gv cv N : Nat} {vs : List Value} {Z : Nat → List Int} (h : LLg w B (.slice (some ⟨gv, 0, none⟩) N cv) vs Z) {i : Nat} {u : Value} (hi : vs[i]? = some u) : w.cell? ⟨gv, i, none⟩ = some u := by
  obtain ⟨i1, i2⟩ := List.getElem?_eq_some_iff.1 hi
  obtain ⟨_, _, _, _, _, hc, _⟩ := h.row.at
  rw [hc i i1, i2]

theorem eqIntSS_sameG (v u : Value) (vs us : List Value) (Z : Nat → List Int) (B C : Nat) (w : World) (h : LLf w B v vs Z) (h2 : LLg w C u us Z) (hn : vs.length = us.length) (hm : vs.length ≤ 40000) (hz : ∀ i, (Z i).length ≤ 2000000) :
    Calls Try.prog 14 #[v, u] w fun e w' => e = .returned (.bool true) ∧ Below w.heap.size w w' := by
  have H := Lib.hid h
  have H2 := Lib.hid h2
  have HZ := Lib.hid hz
  obtain ⟨a, cap, rfl, ha⟩ := h.shape
  obtain ⟨a2, cap2, rfl, ha2⟩ := h2.shape
  have HA := Lib.hid ha
  have HA2 := Lib.hid ha2
  obtain ⟨N, hN⟩ : ∃ N, N = vs.length := ⟨_, rfl⟩
  have HN := Lib.hid hN
  have HN2 := Lib.hid (hN.trans hn)
  rw [← hN] at hm
  have hne : ((N : Int) != (N : Int)) = false := bne_no rfl
  rw [← hn, ← hN]
  rw [← hN] at H
  rw [← hn, ← hN] at H2
  clear h h2 ha ha2 hn hN hz
  go_enter Try.func14, Try.ntmps14
  go_wp2
  go_loopw [5] (fun i wr => ∃ k : Nat, k ≤ N ∧ i = .int .i64 k ∧ Below w.heap.size w wr) (fun i _ => N - (intOf i).toNat)
  case atStart => exact ⟨0, Nat.zero_le _, rfl, Below.refl _ _⟩
  case round =>
    obtain ⟨k, hk, rfl, hb⟩ := hrel
    have HB := Lib.hid hb
    clear hb
    by_cases hlt : k < N
    · rcases HA.out with hx | ⟨gv, rfl⟩
      · have := HN.out; rw [hx] at this; simp at this; omega
      rcases HA2.out with hx | ⟨gv2, rfl⟩
      · have := HN2.out; rw [hx] at this; simp at this; omega
      obtain ⟨z, hz⟩ : ∃ z, vs[k]? = some z := ⟨vs[k]'(by rw [← HN.out]; exact hlt), by simp⟩
      obtain ⟨z2, hz2⟩ : ∃ z, us[k]? = some z := ⟨us[k]'(by rw [← HN2.out]; exact hlt), by simp⟩
      have hc1 := (H.out.keep HB.out).cell hz
      have hc2 := (H2.out.keep HB.out).cell hz2
      have R1 := Lib.hid ((H.out.keep HB.out).at' k z hz)
      have R2 := Lib.hid ((H2.out.keep HB.out).at' k z2 hz2)
      obtain ⟨b1, d1, rfl⟩ := R1.out.shape'
      obtain ⟨b2, d2, rfl⟩ := R2.out.shape'
      clear hz hz2
      have R1d := Lib.hid (R1.out.drew.sl)
      have R2d := Lib.hid (R2.out.drew.sl)
      have HBd := Lib.hid (HB.out.drew)
      go_wp2
      go_region_with (go_at_call 19; refine (eqIntS_self _ _ (Z k) wr.drew R1d.out R2d.out (HZ.out k)).mono ?_; rintro e w1 ⟨rfl, hb⟩; have HB1 := Lib.hid (Below.step HBd.out HBd.out.size hb); clear hb)
      all_goals
        go_wp2
        go_roundw
        case rel => exact ⟨k + 1, by omega, by go_num, HB1.out⟩
        case measure => simp [intOf]; omega
    · obtain rfl : k = N := by omega
      go_wp2
      go_ret
      exact ⟨rfl, HB.out⟩

structure LLr (w : World) (B : Nat) (v : Value) (vs : List Value) (ls : List (List Int)) : Prop where
  row : Rg 33 w B v vs
  len : vs.length = ls.length
  at' : ∀ (i : Nat) (u : Value) (l : List Int), vs[i]? = some u → ls[i]? = some l → Rd w B u l
theorem LLr.nil (w : World) (B : Nat) : LLr w B (.slice none 0 0) [] [] := ⟨Rg.nil _ _ _, rfl, fun i u l h => by simp at h⟩
theorem LLr.mono {w : World} {B C : Nat} {v : Value} {vs : List Value} {ls : List (List Int)} (h : LLr w B v vs ls) (hC : C ≤ B) : LLr w C v vs ls :=
  ⟨h.row.mono hC, h.len, fun i u l hu hl => (h.at' i u l hu hl).mono hC⟩
theorem LLr.f {w : World} {B : Nat} {v : Value} {vs : List Value} {ls : List (List Int)} (h : LLr w B v vs ls) : LLg w B v vs (lsZ ls) :=
  ⟨h.row, fun i u hu => by
    obtain ⟨h1, _⟩ := List.getElem?_eq_some_iff.1 hu
    have h2 : i < ls.length := by rw [← h.len]; exact h1
    unfold lsZ
    rw [List.getD_eq_getElem?_getD, List.getElem?_eq_getElem h2]
    exact h.at' i u _ hu (List.getElem?_eq_getElem h2)⟩
theorem LLr.snoc {w w' : World} {B : Nat} {v v' u : Value} {vs : List Value} {ls : List (List Int)} {l : List Int} {o : Obj} (h : LLr w B v vs ls) (hu : Rd w B u l)
    (hr : Rg 33 w' B v' (vs ++ [u])) (hg : (w.alloc o).grownBy w' v.ownBlock) : LLr w' B v' (vs ++ [u]) (ls ++ [l]) := by
  have h1 := h.row.alloc o
  have hu1 := hu.alloc o
  refine ⟨hr, by simp [h.len], fun i z m hz hm => ?_⟩
  by_cases hi : i < vs.length
  · rw [List.getElem?_append_left hi] at hz
    rw [List.getElem?_append_left (by rw [← h.len]; exact hi)] at hm
    have := (h.at' i z m hz hm).alloc o
    exact this.grown hg (rd_not_row this h1)
  · rw [List.getElem?_append_right (by omega)] at hz
    rw [List.getElem?_append_right (by rw [← h.len]; omega)] at hm
    by_cases hi0 : i - vs.length = 0
    · rw [hi0] at hz
      rw [← h.len, hi0] at hm
      simp only [List.getElem?_cons_zero, Option.some.injEq] at hz hm
      subst hz; subst hm
      exact hu1.grown hg (rd_not_row hu1 h1)
    · rw [List.getElem?_eq_none (by simp; omega)] at hz
      cases hz

theorem cyS_len {V M : Nat} (hV : V ≤ 8) (hM : M ≤ 15) : (cycs (fA V M) (nA V M)).length ≤ 3876 := by
  have h1 := cycsTo_len (fA V M) (nA V M) (nA V M)
  have h2 := nA_bd hV hM
  unfold cycs; omega

theorem LF_FixedWords_bd (W b : Int) : (LF_FixedWords W b).length ≤ 40000 ∧ ∀ i, (lsZ (LF_FixedWords W b) i).length ≤ 40000 := by
  unfold LF_FixedWords
  by_cases h : okS W b = true
  · obtain ⟨V, M, rfl, rfl, h1, h2, h3, h4⟩ := okS_nat h
    rw [if_pos h, show (V : Int).toNat = V by omega, show (((M + 1 : Nat) : Int)).toNat - 1 = M by omega]
    have h5 := cyS_len h2 h4
    have h6 := fixP_len (cycs (fA V M) (nA V M))
    exact ⟨by rw [List.length_map]; omega, lsZ_len (fun l hl => by
      obtain ⟨x, _, rfl⟩ := List.mem_map.1 hl
      rw [wA_len]; omega)⟩
  · rw [if_neg h]; exact ⟨by simp, fun i => by simp [lsZ]⟩

theorem spec_AllCycles (W b : Int) (w : World) :
    Calls Try.prog 7 #[.int .i64 W, .int .i64 b] w fun e w' => ∃ u vs, e = .returned (.tuple #[u, .bool (OK_AllCycles W b)]) ∧ LLx w' w.heap.size u vs (LF_AllCycles W b) ∧ Below w.heap.size w w' := by
  have HV := Lib.hid (show LF_AllCycles W b = (if okS W b = true then (cycs (fA W.toNat (b.toNat - 1)) (nA W.toNat (b.toNat - 1))).map (fun c => c.map (wA W.toNat (b.toNat - 1))) else []) from rfl)
  rw [HV.out, OK_AllCycles]
  by_cases hS : okS W b = true
  · rw [hS, if_pos rfl]
    obtain ⟨V, M, rfl, rfl, h1, h2, h3, h4⟩ := okS_nat hS
    have HF := Lib.hid (fun w' => gpCycles_any V M w' h2 h1 h3 h4)
    rw [show (V : Int).toNat = V by omega, show (((M + 1 : Nat) : Int)).toNat - 1 = M by omega]
    obtain ⟨KK, hKK⟩ : ∃ KK, KK = (cycs (fA V M) (nA V M)).map (fun c => c.map (wA V M)) := ⟨_, rfl⟩
    rw [← hKK] at HF
    rw [← hKK]
    clear hKK
    change Hid (∀ w', Calls _ _ #[.int .i64 (V : Int), .int .i64 ((M + 1 : Nat) : Int)] w' _) at HF
    obtain ⟨b, hb⟩ : ∃ b : Int, b = ((M + 1 : Nat) : Int) := ⟨_, rfl⟩
    rw [← hb] at hS HF
    rw [← hb]
    clear hb
    go_enter Try.func7, Try.ntmps7
    go_wp2_with (go_at_call 24; refine (gpAsked_any _ _ _).mono ?_; rw [hS]; rintro e w1 ⟨rfl, rfl⟩)
    refine (HF.out _).mono ?_
    rintro e w2 ⟨u2, vs2, rfl, hr2, hb2⟩
    have R2 := Lib.hid hr2
    have B2 := Lib.hid hb2
    clear hr2 hb2
    go_wp2
    go_ret2
    exact ⟨u2, vs2, rfl, R2.out, B2.out⟩
  · have hS' : okS W b = false := by simpa using hS
    rw [hS', if_neg (by simp)]
    clear hS
    go_enter Try.func7, Try.ntmps7
    go_wp2_with (go_at_call 24; refine (gpAsked_any _ _ _).mono ?_; rw [hS']; rintro e w1 ⟨rfl, rfl⟩)
    go_ret2
    exact ⟨_, [], rfl, LLx.nil _ _, Below.refl _ _⟩

theorem spec_FixedWords (W b : Int) (w : World) :
    Calls Try.prog 12 #[.int .i64 W, .int .i64 b] w fun e w' => ∃ u vs, e = .returned (.tuple #[u, .bool (OK_FixedWords W b)]) ∧ LLr w' w.heap.size u vs (LF_FixedWords W b) ∧ Below w.heap.size w w' := by
  have HV := Lib.hid (show LF_FixedWords W b = (if okS W b = true then (fixP (cycs (fA W.toNat (b.toNat - 1)) (nA W.toNat (b.toNat - 1)))).map (wA W.toNat (b.toNat - 1)) else []) from rfl)
  rw [HV.out, OK_FixedWords]
  by_cases hS : okS W b = true
  · rw [hS, if_pos rfl]
    obtain ⟨V, M, rfl, rfl, h1, h2, h3, h4⟩ := okS_nat hS
    have HF := Lib.hid (fun w' => gpCycles_any V M w' h2 h1 h3 h4)
    rw [show (V : Int).toNat = V by omega, show (((M + 1 : Nat) : Int)).toNat - 1 = M by omega]
    have HCL := Lib.hid (cyS_len h2 h4)
    obtain ⟨CS, hCS⟩ : ∃ CS, CS = cycs (fA V M) (nA V M) := ⟨_, rfl⟩
    obtain ⟨F, hF⟩ : ∃ F, F = wA V M := ⟨_, rfl⟩
    have HFL := Lib.hid (show ∀ j, (F j).length = V from fun j => by rw [hF, wA_len])
    rw [← hCS] at HCL
    rw [← hCS, ← hF] at HF
    rw [← hCS, ← hF]
    clear hCS hF
    change Hid (∀ w', Calls _ _ #[.int .i64 (V : Int), .int .i64 ((M + 1 : Nat) : Int)] w' _) at HF
    obtain ⟨b, hb⟩ : ∃ b : Int, b = ((M + 1 : Nat) : Int) := ⟨_, rfl⟩
    rw [← hb] at hS HF
    rw [← hb]
    clear hb
    go_enter Try.func12, Try.ntmps12
    go_wp2_with (go_at_call 24; refine (gpAsked_any _ _ _).mono ?_; rw [hS]; rintro e w1 ⟨rfl, rfl⟩)
    refine (HF.out _).mono ?_
    rintro e w1 ⟨u1, vs1, rfl, hl, hb1⟩
    have L1 := Lib.hid hl
    have B1 := Lib.hid hb1
    obtain ⟨C, hC⟩ : ∃ C, C = CS.length := ⟨_, rfl⟩
    have HCC := Lib.hid hC
    have HV1 := Lib.hid (show vs1.length = C by rw [hl.len, List.length_map, hC])
    obtain ⟨a1, c1, rfl⟩ := hl.row.lenR HV1.out
    have hC3 : C ≤ 3876 := by have := HCL.out; omega
    clear hl hb1 hC
    go_wp2
    go_loopw [6, 17] (fun o i wr => ∃ (k : Nat) (vs : List Value), k ≤ C ∧ i = .int .i64 (k : Int) ∧ LLr wr w.heap.size o vs ((fixP (CS.take k)).map F) ∧ Rg 33 wr w1.heap.size o vs ∧ Below w1.heap.size w1 wr) (fun _ i _ => C - (intOf i).toNat)
    case atStart => exact ⟨0, [], Nat.zero_le _, rfl, LLr.nil _ _, Rg.nil _ _ _, Below.refl _ _⟩
    case round =>
      obtain ⟨k, vs, hk, rfl, hlr, hrr, hb⟩ := hrel
      have RR := Lib.hid hrr
      clear hrr
      have R := Lib.hid hlr
      have HB := Lib.hid hb
      have L1r := Lib.hid (L1.out.keep hb)
      have HVL := Lib.hid (show vs.length ≤ 3876 by
        have h5 := fixP_len (CS.take k)
        have h6 := HCL.out
        rw [hlr.len, List.length_map]
        rw [List.length_take] at h5
        omega)
      clear hlr hb
      by_cases hlt : k < C
      · obtain ⟨z, hz⟩ : ∃ z, vs1[k]? = some z := ⟨vs1[k]'(by rw [HV1.out]; exact hlt), by simp⟩
        obtain ⟨g1, rfl⟩ : ∃ g1, a1 = some ⟨g1, 0, none⟩ := by
          rcases L1r.out.row.cases with ⟨he, h0⟩ | ⟨g0, c0, he⟩
          · simp only [Value.slice.injEq] at he; omega
          · simp only [Value.slice.injEq] at he; exact ⟨g0, he.1⟩
        have hcell : wr.cell? ⟨g1, k, none⟩ = some z := by
          have h5 := L1r.out.row.at.2.2.2.2.2.1 k (by rw [HV1.out]; exact hlt)
          rw [h5]; rw [List.getElem?_eq_getElem (by rw [HV1.out]; exact hlt)] at hz; simpa using hz
        obtain ⟨cl, hcl⟩ : ∃ cl, CS[k]? = some cl := ⟨CS[k]'(by rw [← HCC.out]; exact hlt), by simp⟩
        obtain ⟨us, hus⟩ := L1r.out.at' k z _ hz (show (CS.map fun c => c.map F)[k]? = some (cl.map F) by rw [List.getElem?_map, hcl]; rfl)
        have HU := Lib.hid hus
        have HTK := Lib.hid (show fixP (CS.take (k + 1)) = if cl.length = 1 then fixP (CS.take k) ++ [cl.getD 0 0] else fixP (CS.take k) by rw [List.take_add_one, hcl]; exact fixP_snoc _ _)
        obtain ⟨n, hn⟩ : ∃ n, n = cl.length := ⟨_, rfl⟩
        have HNC := Lib.hid hn
        have HUL := Lib.hid (show us.length = n by rw [hus.len, List.length_map, hn])
        obtain ⟨az, cz, rfl⟩ := hus.row.lenR HUL.out
        rw [← hn] at HTK
        clear hz hus hcl hn
        by_cases h5 : n = 1
        · subst h5
          rw [if_pos rfl] at HTK
          obtain ⟨y, hy⟩ : ∃ y, us[0]? = some y := ⟨us[0]'(by rw [HUL.out]; omega), by simp⟩
          obtain ⟨gz, rfl⟩ : ∃ gz, az = some ⟨gz, 0, none⟩ := by
            rcases HU.out.row.cases with ⟨he, h0⟩ | ⟨g0, c0, he⟩
            · simp only [Value.slice.injEq] at he; omega
            · simp only [Value.slice.injEq] at he; exact ⟨g0, he.1⟩
          have hcy : wr.cell? ⟨gz, 0, none⟩ = some y := by
            have h6 := HU.out.row.at.2.2.2.2.2.1 0 (by rw [HUL.out]; omega)
            rw [h6]; rw [List.getElem?_eq_getElem (by rw [HUL.out]; omega)] at hy; simpa using hy
          have hry := HU.out.at' 0 y (F (cl.getD 0 0)) hy (by
            rw [List.getElem?_map, List.getD_eq_getElem?_getD, List.getElem?_eq_getElem (show 0 < cl.length by have := HNC.out; omega)]; rfl)
          have HRY := Lib.hid hry
          obtain ⟨ay, dy, rfl⟩ := hry.shape'
          rw [HFL.out] at hcy HRY
          clear hy hry
          go_wp2_with (go_loud (at_builtin; refine wpList_appG rfl (.tmp 24) (.tmp 28) _ 33 (.slice none 0 0) 24 Try.underlying28 infoL (by omega) rfl rfl w1.heap.size w1.heap.size _ _ vs [.slice ay V dy] rfl rfl (RR.out.alloc _) (Rg.lit _ _ _ _ HB.out.size) (by simp [Value.oneCell']) (by have := HVL.out; simp; omega) (by have := HB.out.size; simp; omega) ?_; intro v3 w3 hr3 hg3 hb3; have N3 := Lib.hid (R.out.snoc HRY.out (hr3.mono B1.out.size) hg3); have R3 := Lib.hid hr3; have B3 := Lib.hid ((HB.out.alloc HB.out.size _).trans hb3); clear hr3 hg3 hb3))
          go_roundw
          case rel => exact ⟨k + 1, _, by omega, by go_num, by rw [HTK.out, List.map_append]; exact N3.out, R3.out, B3.out⟩
          case measure => simp [intOf]; omega
        · rw [if_neg h5] at HTK
          have h6 : ¬ (n : Int) = 1 := by omega
          go_wp2
          go_roundw
          case rel => exact ⟨k + 1, vs, by omega, by go_num, by rw [HTK.out]; exact R.out, RR.out, HB.out⟩
          case measure => simp [intOf]; omega
      · obtain rfl : k = C := by omega
        have HE := Lib.hid (show fixP (CS.take k) = fixP CS by rw [HCC.out, List.take_of_length_le (Nat.le_refl _)])
        go_wp2
        go_ret2
        exact ⟨_, vs, rfl, by rw [← HE.out]; exact R.out, Below.step B1.out B1.out.size HB.out⟩
  · have hS' : okS W b = false := by simpa using hS
    rw [hS', if_neg (by simp)]
    clear hS
    go_enter Try.func12, Try.ntmps12
    go_wp2_with (go_at_call 24; refine (gpAsked_any _ _ _).mono ?_; rw [hS']; rintro e w1 ⟨rfl, rfl⟩)
    go_ret2
    exact ⟨_, [], rfl, LLr.nil _ _, Below.refl _ _⟩

end Go.Proofs.Ytadjjmlneghklaa
