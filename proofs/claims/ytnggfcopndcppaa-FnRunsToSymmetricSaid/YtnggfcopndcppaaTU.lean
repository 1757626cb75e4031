/-
  The program's run of a number added to itself backwards (written by wip/tools/gen_rvrun.py).
-/
import Derived.Test.YtnggfcopndcppaaTT
namespace Go.Proofs.Ytnggfcopndcppaa
open Go.RowKit
set_option linter.unusedVariables false
set_option linter.unusedSimpArgs false
set_option maxRecDepth 100000

theorem owns_shape {w : World} {B n size : Nat} {e : TypeId} {v : Value} {xs : List Value} (h : w.ownsRow B e size v n xs) : ∃ a c, v = .slice a n c := by
  rcases h.2 with ⟨rfl, rfl⟩ | ⟨g, cap, cur, rfl, _⟩
  · exact ⟨none, 0, rfl⟩
  · exact ⟨some ⟨g, 0, none⟩, cap, rfl⟩

/-- How many a run has left behind, as memory tells. -/
def leftLen (w : World) (s : Nat) : Nat := match w.cell? ⟨s, 2, none⟩ with
  | some (.slice _ n _) => n
  | _ => 0

theorem infoAR : (Try.prog.info? 75).map (·.size) = some 3 := by kernel_rfl
theorem loadVar_trip (w : World) (s : Nat) (x0 x1 x2 : Value) (h0 : w.cell? ⟨s, 0, none⟩ = some x0) (h1 : w.cell? ⟨s, 1, none⟩ = some x1) (h2 : w.cell? ⟨s, 2, none⟩ = some x2) : (loadVar 75 ⟨s, 0, none⟩).run Try.prog w = .ok (.agg #[x0, x1, x2]) w := by
  have hl : (loadCells ⟨s, 0, none⟩ ([x0, x1, x2] : List Value).length).run Try.prog w = .ok ([x0, x1, x2] : List Value).toArray w :=
    run_loadCells_list (P := Try.prog) w ⟨s, 0, none⟩ [x0, x1, x2] (fun j v hv => by
      have hadd : (⟨s, 0, none⟩ : Addr).add j = ⟨s, j, none⟩ := by unfold Addr.add; split <;> simp_all
      rw [hadd]
      match j, hv with
      | 0, hv => simp at hv; subst hv; exact h0
      | 1, hv => simp at hv; subst hv; exact h1
      | 2, hv => simp at hv; subst hv; exact h2
      | j + 3, hv => simp at hv)
  have hi := infoAR
  cases hq : Try.prog.info? 75 with
  | none => simp [hq] at hi
  | some i =>
    have hs : i.size = 3 := by simpa [hq] using hi
    have hagg : (isAgg 75).run Try.prog w = .ok true w := by
      unfold isAgg
      rw [Sem.run_bind, run_underlying Try.underlying75 w]
      rfl
    simp only [List.length_cons, List.length_nil, Nat.zero_add, Nat.reduceAdd] at hl
    simp [loadVar, Sem.run_bind, hagg, sizeOf, typeInfo, hq, hs, hl]

theorem results_cell_one {P : Program} {fn : Func} {p : Tmp} {ty : TypeId} (h : fn.results = #[.cell p ty]) (tmps : Array Value) (w : World) (s : Nat) (v : Value) (hp : tmps.getD p undef = .pointer (some ⟨s, 0, none⟩)) (hl : (loadVar ty ⟨s, 0, none⟩).run P w = .ok v w) :
    (results fn tmps).run P w = .ok v w := by
  have hp' : tmps[p]?.getD undef = .pointer (some ⟨s, 0, none⟩) := by simpa using hp
  simp [results, h, hp', asAddr, hl]

theorem ret_trip {fn : Func} {p : Tmp} (h : fn.results = #[.cell p 75]) (tmps : Array Value) (w : World) (s : Nat) (x0 x1 x2 : Value)
    (hp : tmps.getD p undef = .pointer (some ⟨s, 0, none⟩)) (h0 : w.cell? ⟨s, 0, none⟩ = some x0) (h1 : w.cell? ⟨s, 1, none⟩ = some x1) (h2 : w.cell? ⟨s, 2, none⟩ = some x2) :
    (results fn tmps).run Try.prog w = .ok (.agg #[x0, x1, x2]) w := results_cell_one h tmps w s _ hp (loadVar_trip w s x0 x1 x2 h0 h1 h2)

theorem set_trip {w : World} {s : Nat} {y0 y1 y2 x0 x1 x2 : Value} (h0 : w.cell? ⟨s, 0, none⟩ = some y0) (h1 : w.cell? ⟨s, 1, none⟩ = some y1) (h2 : w.cell? ⟨s, 2, none⟩ = some y2) :
    (((w.setCell ⟨s, 0, none⟩ x0).setCell ⟨s, 1, none⟩ x1).setCell ⟨s, 2, none⟩ x2).cell? ⟨s, 0, none⟩ = some x0 ∧ (((w.setCell ⟨s, 0, none⟩ x0).setCell ⟨s, 1, none⟩ x1).setCell ⟨s, 2, none⟩ x2).cell? ⟨s, 1, none⟩ = some x1 ∧
      (((w.setCell ⟨s, 0, none⟩ x0).setCell ⟨s, 1, none⟩ x1).setCell ⟨s, 2, none⟩ x2).cell? ⟨s, 2, none⟩ = some x2 := by
  have hp := set_pair (x0 := x0) (x1 := x1) h0 h1
  have n0 : (⟨s, 2, none⟩ : Addr) ≠ ⟨s, 0, none⟩ := fun e => by simp at e
  have n1 : (⟨s, 2, none⟩ : Addr) ≠ ⟨s, 1, none⟩ := fun e => by simp at e
  refine ⟨?_, ?_, ?_⟩
  · rw [World.cell?_setCell_other _ _ _ _ n0]; exact hp.1
  · rw [World.cell?_setCell_other _ _ _ _ n1]; exact hp.2
  · refine World.cell?_setCell_same _ _ _ (u := y2) ?_
    rw [World.cell?_setCell_other _ _ _ _ n1.symm, World.cell?_setCell_other _ _ _ _ n0.symm]
    exact h2
theorem trip_grown (w : World) (s : Nat) (x0 x1 x2 : Value) : w.grownBy (((w.setCell ⟨s, 0, none⟩ x0).setCell ⟨s, 1, none⟩ x1).setCell ⟨s, 2, none⟩ x2) (some s) :=
  grown_trans (grown_trans (grown_setCell _ _ _ _) (grown_setCell _ _ _ _)) (grown_setCell _ _ _ _)

set_option maxHeartbeats 1000000 in
theorem runUpTo_any (g cap : Nat) (xs : List Int) (b : Int) (most D : Nat) (w : World) (h : Rd w D (.slice (some ⟨g, 0, none⟩) xs.length cap) xs) (hD : D ≤ w.heap.size) (hd : Dg b xs) (hm : most ≤ 100) :
    Calls Try.prog 61 #[lng (.slice (some ⟨g, 0, none⟩) xs.length cap) b, .int .i64 (most : Int)] w fun e w' => ∃ (vs : List Value) (ls : List (List Int)) (cur : List Int) (g' c' : Nat) (al : Option Addr) (cl : Nat),
      e = .returned (.agg #[.slice (some ⟨g', 0, none⟩) cur.length c', .int .i64 b, .slice al ls.length cl]) ∧ Lf w' w.heap.size D (.slice al ls.length cl) b vs ls ∧ Rd w' D (.slice (some ⟨g', 0, none⟩) cur.length c') cur ∧
      (∀ (i : Nat) (z : Value), vs[i]? = some z → z.ownBlock = none ∨ z.ownBlock ≠ some g') ∧ ls ++ [cur] = rvR b most xs ∧ Dg b cur ∧ Below w.heap.size w w' := by
  have H := Lib.hid h
  have HD := Lib.hid hd
  have h1 := hd.l1
  have h40 := hd.l40
  have hg := h.at.2.2.1
  clear h hd
  obtain ⟨w2, hw2⟩ : ∃ w2, w2 = (w.alloc (.cells #[.slice (some ⟨g, 0, none⟩) xs.length cap, .int .i64 b] 56)) := ⟨_, rfl⟩
  have hz2 : w2.heap.size = w.heap.size + 1 := by rw [hw2]; simp
  have r4 : Rg 75 (w2.alloc (.cells #[.slice none 0 0, .int .i64 0, .slice none 0 0] 75)) w2.heap.size (.slice (some ⟨w2.heap.size, 0, none⟩) 3 3) [.slice none 0 0, .int .i64 0, .slice none 0 0] :=
    World.ownsRow_lit (e := 75) (size := 1) (base := w2.heap.size) w2 #[.slice none 0 0, .int .i64 0, .slice none 0 0] 3 (Nat.le_refl _) (by unfold maxLen; omega) rfl
  obtain ⟨w3, hw3⟩ : ∃ w3, w3 = w2.alloc (.cells #[.slice none 0 0, .int .i64 0, .slice none 0 0] 75) := ⟨_, rfl⟩
  rw [← hw3] at r4
  have hz3 : w3.heap.size = w.heap.size + 1 + 1 := by rw [hw3]; simp [hz2]
  have r5 : Rg 75 (w3.alloc (.cells #[.slice (some ⟨g, 0, none⟩) xs.length cap, .int .i64 b, .slice none 0 0] 75)) w3.heap.size (.slice (some ⟨w3.heap.size, 0, none⟩) 3 3) [.slice (some ⟨g, 0, none⟩) xs.length cap, .int .i64 b, .slice none 0 0] :=
    World.ownsRow_lit (e := 75) (size := 1) (base := w3.heap.size) w3 #[.slice (some ⟨g, 0, none⟩) xs.length cap, .int .i64 b, .slice none 0 0] 3 (Nat.le_refl _) (by unfold maxLen; omega) rfl
  have r4b := r4.alloc (.cells #[.slice (some ⟨g, 0, none⟩) xs.length cap, .int .i64 b, .slice none 0 0] 75)
  obtain ⟨w5, hw5⟩ : ∃ w5, w5 = w3.alloc (.cells #[.slice (some ⟨g, 0, none⟩) xs.length cap, .int .i64 b, .slice none 0 0] 75) := ⟨_, rfl⟩
  rw [← hw5] at r5 r4b
  rw [hz2] at r4b
  rw [hz3] at r5
  have R4 := Lib.hid r4b
  have R5 := Lib.hid r5
  have HB5 := Lib.hid (show Below w.heap.size w w5 by rw [hw5, hw3, hw2]; exact ((alloc_below w _).alloc (by simp <;> omega) _).alloc (by simp <;> omega) _)
  have H5 := Lib.hid (H.out.keep HB5.out)
  rw [hw3, hw2] at hw5
  clear r4 r4b r5 hz2 hz3 hw3 hw2
  go_enter Try.func61, Try.ntmps61
  go_wp2
  rw [← hw5]
  clear hw5
  go_loopw [7] (fun q wr => ∃ (vs : List Value) (ls : List (List Int)) (cur : List Int) (g' c' : Nat) (al : Option Addr) (cl : Nat), Rg 75 wr (w.heap.size + 1 + 1) (.slice (some ⟨w.heap.size + 1 + 1, 0, none⟩) 3 3) [.slice (some ⟨g', 0, none⟩) cur.length c', .int .i64 b, .slice al ls.length cl] ∧
      Rg 75 wr (w.heap.size + 1) (.slice (some ⟨w.heap.size + 1, 0, none⟩) 3 3) [.slice none 0 0, .int .i64 0, .slice none 0 0] ∧
      Lf wr w.heap.size D (.slice al ls.length cl) b vs ls ∧ Rd wr D (.slice (some ⟨g', 0, none⟩) cur.length c') cur ∧ (∀ (i : Nat) (z : Value), vs[i]? = some z → z.ownBlock = none ∨ z.ownBlock ≠ some g') ∧ RvS b most xs ls cur ∧ Below w.heap.size w wr) (fun _ wr => most - leftLen wr (w.heap.size + 1 + 1))
  case atStart => exact ⟨[], [], xs, g, cap, none, 0, R5.out, R4.out, Lf.nil _ _ _ _, H5.out, fun i z hz => by simp at hz, RvS.start most HD.out, HB5.out⟩
  case round =>
    obtain ⟨vs, ls, cur, g', c', al, cl, hr5, hr4, hlf, hrz, hfar, hrs, hb⟩ := hrel
    have RG5 := Lib.hid hr5
    have RG4 := Lib.hid hr4
    have LF := Lib.hid hlf
    have RZ := Lib.hid hrz
    have FAR := Lib.hid hfar
    have HRS := Lib.hid hrs
    have HB := Lib.hid hb
    have HDC := Lib.hid hrs.dg
    have hc1 := hrs.dg.l1
    have hc40 := hrs.dg.l40
    have hle := hrs.le
    have hll : leftLen wr (w.heap.size + 1 + 1) = ls.length := by
      unfold leftLen
      rw [show wr.cell? ⟨w.heap.size + 1 + 1, 2, none⟩ = some (.slice al ls.length cl) from hr5.at.2.2.2.2.2.1 2 (by simp)]
    have HLL := Lib.hid hll
    have p0 : wr.cell? ⟨w.heap.size + 1 + 1, 0, none⟩ = some (.slice (some ⟨g', 0, none⟩) cur.length c') := hr5.at.2.2.2.2.2.1 0 (by simp)
    have p1 : wr.cell? ⟨w.heap.size + 1 + 1, 1, none⟩ = some (.int .i64 b) := hr5.at.2.2.2.2.2.1 1 (by simp)
    have p2 : wr.cell? ⟨w.heap.size + 1 + 1, 2, none⟩ = some (.slice al ls.length cl) := hr5.at.2.2.2.2.2.1 2 (by simp)
    clear hr5 hr4 hlf hrz hfar hrs hb hll
    by_cases hlt : ls.length < most
    · have hltI : (ls.length : Int) < (most : Int) := by omega
      by_cases hp : palB cur = true
      · have HP := Lib.hid hp
        have HE := Lib.hid (HRS.out.endPal hp)
        clear hp
        go_wp2_with fail
        (refine (isSymmetric_any g' c' cur b D _ RZ.out hc1 (by omega)).mono ?_; rw [HP.out]; rintro e w6 ⟨rfl, hb6⟩; have RG5b := Lib.hid (RG5.out.keep hb6); have RG4b := Lib.hid (RG4.out.keep hb6); have LFb := Lib.hid (LF.out.keep hb6); have RZb := Lib.hid (RZ.out.keep hb6); have B6 := Lib.hid (Below.step HB.out HB.out.size hb6); clear hb6 p0 p1 p2)
        have q5 := RG5b.out.at.2.2.2.2.2.1
        have q4 := RG4b.out.at.2.2.2.2.2.1
        have z4 := RG4b.out.at.2.2.2.2.2.2
        have k0 : w6.cell? ⟨w.heap.size + 1 + 1, 0, none⟩ = some (.slice (some ⟨g', 0, none⟩) cur.length c') := q5 0 (by simp)
        have k1 : w6.cell? ⟨w.heap.size + 1 + 1, 1, none⟩ = some (.int .i64 b) := q5 1 (by simp)
        have k2 : w6.cell? ⟨w.heap.size + 1 + 1, 2, none⟩ = some (.slice al ls.length cl) := q5 2 (by simp)
        have d0 : w6.cell? ⟨w.heap.size + 1, 0, none⟩ = some (.slice none 0 0) := q4 0 (by simp)
        have d1 : w6.cell? ⟨w.heap.size + 1, 1, none⟩ = some (.int .i64 0) := q4 1 (by simp)
        have d2 : w6.cell? ⟨w.heap.size + 1, 2, none⟩ = some (.slice none 0 0) := q4 2 (by simp)
        have z0 := z4 0
        have z1 := z4 1
        have z2 := z4 2
        clear q5 q4 z4
        go_wp2
        have y4 := RG4b.out.at.2.2.2.2.2.1
        have y0 : w6.cell? ⟨w.heap.size + 1, 0, none⟩ = some (.slice none 0 0) := y4 0 (by simp)
        have y1 : w6.cell? ⟨w.heap.size + 1, 1, none⟩ = some (.int .i64 0) := y4 1 (by simp)
        have y2 : w6.cell? ⟨w.heap.size + 1, 2, none⟩ = some (.slice none 0 0) := y4 2 (by simp)
        have hst := set_trip (x0 := .slice (some ⟨g', 0, none⟩) cur.length c') (x1 := .int .i64 b) (x2 := .slice al ls.length cl) y0 y1 y2
        have hgr := trip_grown w6 (w.heap.size + 1) (.slice (some ⟨g', 0, none⟩) cur.length c') (.int .i64 b) (.slice al ls.length cl)
        have hb' : Below w.heap.size w (((w6.setCell ⟨w.heap.size + 1, 0, none⟩ (.slice (some ⟨g', 0, none⟩) cur.length c')).setCell ⟨w.heap.size + 1, 1, none⟩ (.int .i64 b)).setCell ⟨w.heap.size + 1, 2, none⟩ (.slice al ls.length cl)) := ((B6.out.setCell (Nat.le_succ _) _).setCell (Nat.le_succ _) _).setCell (Nat.le_succ _) _
        refine bodyPost_ret (ret_trip rfl _ _ (w.heap.size + 1) _ _ _ rfl hst.1 hst.2.1 hst.2.2) rfl ?_
        exact ⟨vs, ls, cur, g', c', al, cl, rfl, LFb.out.grown (u := .slice (some ⟨w.heap.size + 1, 0, none⟩) 3 3) hgr RG4b.out (by decide) (by decide), RZb.out.grown (row := some (w.heap.size + 1)) hgr (owns_apart (u := .slice (some ⟨w.heap.size + 1, 0, none⟩) 3 3) (by decide) (rd_owns RZb.out) RG4b.out), FAR.out, HE.out, HDC.out, hb'⟩
      · have hp' : palB cur = false := by simpa using hp
        have HP := Lib.hid hp'
        clear hp hp'
        go_wp2_with fail
        refine (isSymmetric_any g' c' cur b D _ RZ.out hc1 (by omega)).mono ?_
        rw [HP.out]
        rintro e w6 ⟨rfl, hb6⟩
        have RG5b := Lib.hid (RG5.out.keep hb6)
        have RG4b := Lib.hid (RG4.out.keep hb6)
        have LFb := Lib.hid (LF.out.keep hb6)
        have RZb := Lib.hid (RZ.out.keep hb6)
        have B6 := Lib.hid (Below.step HB.out HB.out.size hb6)
        have s0 := Below.keeps_cell hb6 p0
        have s1 := Below.keeps_cell hb6 p1
        clear hb6 p0 p1 p2
        go_wp2_with fail
        refine (plusReversed_any g' c' cur b D _ RZb.out HDC.out).mono ?_
        rintro e w7 ⟨hb7, ⟨hle7, g2, c2, rfl, hr7⟩ | ⟨hlt7, rfl⟩⟩
        · have HNX := Lib.hid (HRS.out.step hlt HP.out hle7)
          have RG5c := Lib.hid (RG5b.out.keep hb7)
          have RG4c := Lib.hid (RG4b.out.keep hb7)
          have LFc := Lib.hid (LFb.out.keep hb7)
          have RZc := Lib.hid (RZb.out.keep hb7)
          have B7 := Lib.hid (Below.step B6.out B6.out.size hb7)
          have FAR2 := Lib.hid (LFb.out.far (Nat.le_refl _) hr7)
          have hgg : g' ≠ g2 := by
            have h1 := (RZb.out.lt g' rfl).2
            have h2 := (hr7.lt g2 rfl).1
            omega
          have HGG := Lib.hid hgg
          have R7 := Lib.hid (hr7.mono (Nat.le_trans hD B6.out.size))
          have hz7 : w.heap.size + 1 + 1 < w7.heap.size := by have := (RG5c.out.lt (w.heap.size + 1 + 1) rfl).2; omega
          have q5 := RG5c.out.at.2.2.2.2.2.1
          have z5 := RG5c.out.at.2.2.2.2.2.2
          have k0 : w7.cell? ⟨w.heap.size + 1 + 1, 0, none⟩ = some (.slice (some ⟨g', 0, none⟩) cur.length c') := q5 0 (by simp)
          have k1 : w7.cell? ⟨w.heap.size + 1 + 1, 1, none⟩ = some (.int .i64 b) := q5 1 (by simp)
          have k2 : w7.cell? ⟨w.heap.size + 1 + 1, 2, none⟩ = some (.slice al ls.length cl) := q5 2 (by simp)
          have z0 := z5 0
          have z1 := z5 1
          have z2 := z5 2
          clear q5 z5 hr7 hb7 hgg s0 s1
          have KA := Lib.hid ((alloc_below w7 (.cells #[.slice (some ⟨g2, 0, none⟩) (rvA b cur).length c2, .int .i64 b] 56)).alloc (by simp) (.cells #[.slice (some ⟨g', 0, none⟩) cur.length c', .int .i64 b] 56))
          have ROW := Lib.hid (owns_keep LFc.out.row KA.out)
          have HVL := Lib.hid (show vs.length ≤ 100000 by rw [LFc.out.len]; omega)
          have hsz2 : w.heap.size ≤ w7.heap.size := by omega
          obtain ⟨WW, hWW⟩ : ∃ WW, WW = ((w7.alloc (.cells #[.slice (some ⟨g2, 0, none⟩) (rvA b cur).length c2, .int .i64 b] 56)).alloc (.cells #[.slice (some ⟨g', 0, none⟩) cur.length c', .int .i64 b] 56)) := ⟨_, rfl⟩
          have HNEXT : ∀ v8 w8, w8.ownsRow w.heap.size 56 2 v8 (vs ++ [Value.slice (some ⟨g', 0, none⟩) cur.length c']).length (flatL b (vs ++ [Value.slice (some ⟨g', 0, none⟩) cur.length c'])) → WW.grownBy w8 (Value.slice al ls.length cl).ownBlock → Below w.heap.size WW w8 →
              ∃ a8 c8, v8 = .slice a8 (ls ++ [cur]).length c8 ∧ Rg 75 w8 (w.heap.size + 1 + 1) (.slice (some ⟨w.heap.size + 1 + 1, 0, none⟩) 3 3) [.slice (some ⟨g', 0, none⟩) cur.length c', .int .i64 b, .slice al ls.length cl] ∧
                Rg 75 w8 (w.heap.size + 1) (.slice (some ⟨w.heap.size + 1, 0, none⟩) 3 3) [.slice none 0 0, .int .i64 0, .slice none 0 0] ∧ Lf w8 w.heap.size D v8 b (vs ++ [Value.slice (some ⟨g', 0, none⟩) cur.length c']) (ls ++ [cur]) ∧ Rd w8 D (.slice (some ⟨g2, 0, none⟩) (rvA b cur).length c2) (rvA b cur) ∧
                Below w.heap.size w w8 ∧ w8.cell? ⟨w7.heap.size, 0, none⟩ = some (.slice (some ⟨g2, 0, none⟩) (rvA b cur).length c2) ∧ w8.cell? ⟨w7.heap.size, 1, none⟩ = some (.int .i64 b) := by
            intro v8 w8 hr8 hg8 hb8
            rw [← hWW] at KA ROW
            obtain ⟨a8, c8, hv8⟩ := owns_shape hr8
            rw [List.length_append, LFc.out.len, List.length_singleton] at hv8
            have hne8 : some w7.heap.size ≠ (Value.slice al ls.length cl).ownBlock := fun e => by
              have := (World.ownsRow.lt LFc.out.row _ e.symm).2
              omega
            refine ⟨a8, c8, by rw [hv8, List.length_append, List.length_singleton], Rg.grown (RG5c.out.keep KA.out) hg8 (owns_apart (by decide) (RG5c.out.keep KA.out) ROW.out), Rg.grown (RG4c.out.keep KA.out) hg8 (owns_apart (by decide) (RG4c.out.keep KA.out) ROW.out),
              (LFc.out.keep KA.out).snoc (RZc.out.keep KA.out) FAR.out hr8 hg8, (R7.out.keep KA.out).grown hg8 (owns_apart (by decide) (rd_owns (R7.out.keep KA.out)) ROW.out), (Below.step B7.out B7.out.size KA.out).trans hb8, hg8.cell ?_ hne8, hg8.cell ?_ hne8⟩
            · rw [hWW]; simp [go_sem]
            · rw [hWW]; simp [go_sem]
          rw [hWW] at HNEXT
          clear hWW
          have HNX8 := Lib.hid HNEXT
          have hB8 : w.heap.size ≤ ((w7.alloc (.cells #[.slice (some ⟨g2, 0, none⟩) (rvA b cur).length c2, .int .i64 b] 56)).alloc (.cells #[.slice (some ⟨g', 0, none⟩) cur.length c', .int .i64 b] 56)).heap.size := Nat.le_trans hsz2 KA.out.size
          have HB8 := Lib.hid hB8
          have hs7 : ¬ w7.heap.size = w.heap.size + 1 + 1 := by omega
          have hs8 : ¬ w.heap.size + 1 + 1 = w7.heap.size := by omega
          clear HNEXT hB8
          go_wp2_with (at_builtin; go_loud (refine wpList_appLN rfl (.tmp 30) (.tmp 33) rfl w.heap.size (w7.heap.size + 1) _ b vs (.slice (some ⟨g', 0, none⟩) cur.length c') rfl rfl ROW.out (by simp [go_sem]) (by simp [go_sem]) rfl HVL.out HB8.out ?_; intro v8 w8 hr8 hg8 hb8; obtain ⟨a8, c8, hv8, hrg5, hrg4, hlf8, hrd8, hbw8, e0, e1⟩ := HNX8.out v8 w8 hr8 hg8 hb8; subst hv8; have RG5e := Lib.hid hrg5; have RG4e := Lib.hid hrg4; have LFe := Lib.hid hlf8; have R7e := Lib.hid hrd8; have B8 := Lib.hid hbw8; have q5 := RG5e.out.at.2.2.2.2.2.1; have z5 := RG5e.out.at.2.2.2.2.2.2; have m0 : w8.cell? ⟨w.heap.size + 1 + 1, 0, none⟩ = some (.slice (some ⟨g', 0, none⟩) cur.length c') := q5 0 (by simp); have m1 : w8.cell? ⟨w.heap.size + 1 + 1, 1, none⟩ = some (.int .i64 b) := q5 1 (by simp); have m2 : w8.cell? ⟨w.heap.size + 1 + 1, 2, none⟩ = some (.slice al ls.length cl) := q5 2 (by simp); have n0 := z5 0; have n1 := z5 1; have n2 := z5 2; clear q5 z5 hr8 hg8 hb8 hrg5 hrg4 hlf8 hrd8 hbw8))
          have t1 := RG5e.out.set 2 (.slice a8 (ls.length + 1) c8)
          have t2 := t1.1.set 0 (.slice (some ⟨g2, 0, none⟩) (rvA b cur).length c2)
          have t3 := t2.1.set 1 (.int .i64 b)
          have hgr := grown_trans (grown_trans t1.2 t2.2) t3.2
          have hl1 : (ls ++ [cur]).length = ls.length + 1 := by simp
          have r5 := t3.1
          simp only [List.set_cons_succ, List.set_cons_zero] at r5
          refine ⟨⟨vs ++ [Value.slice (some ⟨g', 0, none⟩) cur.length c'], ls ++ [cur], rvA b cur, g2, c2, a8, c8, ?_, ?_, ?_, ?_, ?_, HNX.out, ?_⟩, ?_⟩
          · rw [hl1]; exact r5
          · exact RG4e.out.grown hgr (.inr (fun e => by simp [Value.ownBlock] at e))
          · exact LFe.out.grown (u := .slice (some ⟨w.heap.size + 1 + 1, 0, none⟩) 3 3) hgr RG5e.out (by decide) (by decide)
          · exact R7e.out.grown hgr (owns_apart (u := .slice (some ⟨w.heap.size + 1 + 1, 0, none⟩) 3 3) (by decide) (rd_owns R7e.out) RG5e.out)
          · intro i z hz
            by_cases hi : i < vs.length
            · rw [List.getElem?_append_left hi] at hz
              exact FAR2.out i z hz
            · rw [List.getElem?_append_right (by omega)] at hz
              have hi2 := (List.getElem?_eq_some_iff.1 hz).1
              rw [List.length_singleton] at hi2
              rw [show i - vs.length = 0 by omega] at hz
              simp only [List.getElem?_cons_zero, Option.some.injEq] at hz
              subst hz
              exact .inr (fun e => HGG.out (by simp only [Value.ownBlock, Option.some.injEq] at e; exact e))
          · exact ((B8.out.setCell (by simp <;> omega) _).setCell (by simp <;> omega) _).setCell (by simp <;> omega) _
          · have hlen : leftLen (((w8.setCell ⟨w.heap.size + 1 + 1, 2, none⟩ (.slice a8 (ls.length + 1) c8)).setCell ⟨w.heap.size + 1 + 1, 0, none⟩ (.slice (some ⟨g2, 0, none⟩) (rvA b cur).length c2)).setCell ⟨w.heap.size + 1 + 1, 1, none⟩ (.int .i64 b)) (w.heap.size + 1 + 1) = ls.length + 1 := by
              unfold leftLen
              rw [r5.at.2.2.2.2.2.1 2 (by simp)]
              rfl
            rw [hlen, HLL.out]
            omega
        · have HE := Lib.hid (HRS.out.endLong hlt7)
          have RG5c := Lib.hid (RG5b.out.keep hb7)
          have RG4c := Lib.hid (RG4b.out.keep hb7)
          have LFc := Lib.hid (LFb.out.keep hb7)
          have RZc := Lib.hid (RZb.out.keep hb7)
          have B7 := Lib.hid (Below.step B6.out B6.out.size hb7)
          have KA := Lib.hid (alloc_below w7 (.cells #[.slice none 0 0, .int .i64 0] 56))
          have RG5d := Lib.hid (RG5c.out.keep KA.out)
          have RG4d := Lib.hid (RG4c.out.keep KA.out)
          have LFd := Lib.hid (LFc.out.keep KA.out)
          have RZd := Lib.hid (RZc.out.keep KA.out)
          have B8 := Lib.hid (Below.step B7.out B7.out.size KA.out)
          have hz7 : w.heap.size + 1 + 1 < w7.heap.size := by have := (RG5c.out.lt (w.heap.size + 1 + 1) rfl).2; omega
          have hz6 : w.heap.size + 1 < w7.heap.size := by omega
          clear hb7 s0 s1
          have q5 := RG5c.out.at.2.2.2.2.2.1
          have q4 := RG4c.out.at.2.2.2.2.2.1
          have z4 := RG4c.out.at.2.2.2.2.2.2
          have k0 : w7.cell? ⟨w.heap.size + 1 + 1, 0, none⟩ = some (.slice (some ⟨g', 0, none⟩) cur.length c') := q5 0 (by simp)
          have k1 : w7.cell? ⟨w.heap.size + 1 + 1, 1, none⟩ = some (.int .i64 b) := q5 1 (by simp)
          have k2 : w7.cell? ⟨w.heap.size + 1 + 1, 2, none⟩ = some (.slice al ls.length cl) := q5 2 (by simp)
          have d0 : w7.cell? ⟨w.heap.size + 1, 0, none⟩ = some (.slice none 0 0) := q4 0 (by simp)
          have d1 : w7.cell? ⟨w.heap.size + 1, 1, none⟩ = some (.int .i64 0) := q4 1 (by simp)
          have d2 : w7.cell? ⟨w.heap.size + 1, 2, none⟩ = some (.slice none 0 0) := q4 2 (by simp)
          have z0 := z4 0
          have z1 := z4 1
          have z2 := z4 2
          clear q5 q4 z4
          go_wp2
          have y4 := RG4c.out.at.2.2.2.2.2.1
          have y0 : w7.cell? ⟨w.heap.size + 1, 0, none⟩ = some (.slice none 0 0) := y4 0 (by simp)
          have y1 : w7.cell? ⟨w.heap.size + 1, 1, none⟩ = some (.int .i64 0) := y4 1 (by simp)
          have y2 : w7.cell? ⟨w.heap.size + 1, 2, none⟩ = some (.slice none 0 0) := y4 2 (by simp)
          have hst := set_trip (x0 := .slice (some ⟨g', 0, none⟩) cur.length c') (x1 := .int .i64 b) (x2 := .slice al ls.length cl) y0 y1 y2
          have hgr := trip_grown w7 (w.heap.size + 1) (.slice (some ⟨g', 0, none⟩) cur.length c') (.int .i64 b) (.slice al ls.length cl)
          have hb' : Below w.heap.size w (((w7.setCell ⟨w.heap.size + 1, 0, none⟩ (.slice (some ⟨g', 0, none⟩) cur.length c')).setCell ⟨w.heap.size + 1, 1, none⟩ (.int .i64 b)).setCell ⟨w.heap.size + 1, 2, none⟩ (.slice al ls.length cl)) := ((B7.out.setCell (Nat.le_succ _) _).setCell (Nat.le_succ _) _).setCell (Nat.le_succ _) _
          obtain ⟨wf, hwf⟩ : ∃ wf, wf = (((w7.setCell ⟨w.heap.size + 1, 0, none⟩ (.slice (some ⟨g', 0, none⟩) cur.length c')).setCell ⟨w.heap.size + 1, 1, none⟩ (.int .i64 b)).setCell ⟨w.heap.size + 1, 2, none⟩ (.slice al ls.length cl)) := ⟨_, rfl⟩
          rw [← hwf] at hst hgr hb'
          rw [← hwf]
          clear hwf
          have KF := alloc_below wf (.cells #[.slice none 0 0, .int .i64 0] 56)
          refine bodyPost_ret (ret_trip rfl _ _ (w.heap.size + 1) _ _ _ rfl (Below.keeps_cell KF hst.1) (Below.keeps_cell KF hst.2.1) (Below.keeps_cell KF hst.2.2)) rfl ?_
          exact ⟨vs, ls, cur, g', c', al, cl, rfl, (LFc.out.grown (u := .slice (some ⟨w.heap.size + 1, 0, none⟩) 3 3) hgr RG4c.out (by decide) (by decide)).keep KF, (RZc.out.grown (row := some (w.heap.size + 1)) hgr (owns_apart (u := .slice (some ⟨w.heap.size + 1, 0, none⟩) 3 3) (by decide) (rd_owns RZc.out) RG4c.out)).keep KF, FAR.out, HE.out, HDC.out, Below.step hb' hb'.size KF⟩
    · have hltI : ¬ (ls.length : Int) < (most : Int) := by omega
      have HE := Lib.hid (HRS.out.endMost (by omega))
      clear p0 p1 p2
      have q5 := RG5.out.at.2.2.2.2.2.1
      have q4 := RG4.out.at.2.2.2.2.2.1
      have z4 := RG4.out.at.2.2.2.2.2.2
      have k0 : wr.cell? ⟨w.heap.size + 1 + 1, 0, none⟩ = some (.slice (some ⟨g', 0, none⟩) cur.length c') := q5 0 (by simp)
      have k1 : wr.cell? ⟨w.heap.size + 1 + 1, 1, none⟩ = some (.int .i64 b) := q5 1 (by simp)
      have k2 : wr.cell? ⟨w.heap.size + 1 + 1, 2, none⟩ = some (.slice al ls.length cl) := q5 2 (by simp)
      have d0 : wr.cell? ⟨w.heap.size + 1, 0, none⟩ = some (.slice none 0 0) := q4 0 (by simp)
      have d1 : wr.cell? ⟨w.heap.size + 1, 1, none⟩ = some (.int .i64 0) := q4 1 (by simp)
      have d2 : wr.cell? ⟨w.heap.size + 1, 2, none⟩ = some (.slice none 0 0) := q4 2 (by simp)
      have z0 := z4 0
      have z1 := z4 1
      have z2 := z4 2
      clear q5 q4 z4
      go_wp2
      have y4 := RG4.out.at.2.2.2.2.2.1
      have y0 : wr.cell? ⟨w.heap.size + 1, 0, none⟩ = some (.slice none 0 0) := y4 0 (by simp)
      have y1 : wr.cell? ⟨w.heap.size + 1, 1, none⟩ = some (.int .i64 0) := y4 1 (by simp)
      have y2 : wr.cell? ⟨w.heap.size + 1, 2, none⟩ = some (.slice none 0 0) := y4 2 (by simp)
      have hst := set_trip (x0 := .slice (some ⟨g', 0, none⟩) cur.length c') (x1 := .int .i64 b) (x2 := .slice al ls.length cl) y0 y1 y2
      have hgr := trip_grown wr (w.heap.size + 1) (.slice (some ⟨g', 0, none⟩) cur.length c') (.int .i64 b) (.slice al ls.length cl)
      have hb' : Below w.heap.size w (((wr.setCell ⟨w.heap.size + 1, 0, none⟩ (.slice (some ⟨g', 0, none⟩) cur.length c')).setCell ⟨w.heap.size + 1, 1, none⟩ (.int .i64 b)).setCell ⟨w.heap.size + 1, 2, none⟩ (.slice al ls.length cl)) := ((HB.out.setCell (Nat.le_succ _) _).setCell (Nat.le_succ _) _).setCell (Nat.le_succ _) _
      refine bodyPost_ret (ret_trip rfl _ _ (w.heap.size + 1) _ _ _ rfl hst.1 hst.2.1 hst.2.2) rfl ?_
      exact ⟨vs, ls, cur, g', c', al, cl, rfl, LF.out.grown (u := .slice (some ⟨w.heap.size + 1, 0, none⟩) 3 3) hgr RG4.out (by decide) (by decide), RZ.out.grown (row := some (w.heap.size + 1)) hgr (owns_apart (u := .slice (some ⟨w.heap.size + 1, 0, none⟩) 3 3) (by decide) (rd_owns RZ.out) RG4.out), FAR.out, HE.out, HDC.out, hb'⟩

end Go.Proofs.Ytnggfcopndcppaa
