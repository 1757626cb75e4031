/-
  Joint text of MI MO MP MR MS MU MQ MT (written by wip/tools/merge.py).
-/
import Derived.Test.YtadjjmlneghklaaM1
import Derived.Test.YtadjjmlneghklaaM2
import Derived.Test.YtadjjmlneghklaaKC
import Derived.Test.YtadjjmlneghklaaJR
/- from XMI -/
namespace Go.Proofs.Ytadjjmlneghklaa
open Go.RowKit
set_option linter.unusedVariables false
set_option linter.unusedSimpArgs false
set_option maxRecDepth 100000

/-- A slice made in a drawn region. -/
theorem upon_make {w : World} {o : Oper} {a : Act} {K : Act → World → Prop} {Q : Exit → Act → World → Prop} (t e : TypeId) (z : Value) (size bytes : Nat)
    (ht : Try.prog.underlying t = some (.slice e)) (hinfo : (Try.prog.info? e).map (fun i => (i.zero, i.size, i.bytes)) = some (some z, size, bytes)) (hby : bytes ≤ 64) (n : Nat) (hn : n ≤ 1000000)
    (h : ∀ g w', w.heap.size ≤ g → g < w'.heap.size → w'.ownsRow g e size (.slice (some ⟨g, 0, none⟩) n n) n (madeCells z.cells (n * size)).toList → Below w.heap.size w w' → K (a.put o.dst (.slice (some ⟨g, 0, none⟩) n n)) w') :
    Oper.upon Try.prog o a K Q ((Sem.run Try.prog (Instr.makeSlice t (.int .i64 (n : Int)) (.int .i64 (n : Int))) w).andThen fun a w' => Result.ok (Next.value a) w') := by
  obtain ⟨i0, hi, hz0, hz1, hz2⟩ := info_parts hinfo
  obtain ⟨w', hr, h2, h3⟩ := run_make_full (P := Try.prog) w w.heap.size t e i0 z size ht hi hz0 hz1 .i64 .i64 n (by rw [hz2]; have := Nat.mul_le_mul hby hn; omega) (by unfold maxLen; omega) (Nat.le_refl _)
  rw [hr]
  exact h w.heap.size w' (Nat.le_refl _) (World.ownsRow.lt h2 _ rfl).2 h2 ((Below.refl _ _).grown h3 (Nat.le_refl _) (fun k hk => by cases hk))

theorem owns_keep {w w' : World} {B n size : Nat} {e : TypeId} {v : Value} {xs : List Value} (h : w.ownsRow B e size v n xs) (hb : Below w.heap.size w w') : w'.ownsRow B e size v n xs := by
  refine ⟨h.1, ?_⟩
  rcases h.2 with h2 | ⟨g, cap, cur, hv, hg, hh, r⟩
  · exact .inl h2
  · exact .inr ⟨g, cap, cur, hv, hg, by rw [hb.block g (Array.getElem?_eq_some_iff.1 hh).1]; exact hh, r⟩

/-- The first k numbers of a map, and zeros. -/
def gst (n : Nat) (f : Nat → Nat) (k : Nat) : List Int := lst k f ++ List.replicate (n - k) 0
theorem gst_zero (n : Nat) (f : Nat → Nat) : gst n f 0 = List.replicate n 0 := by simp [gst, lst]
theorem gst_len {n k : Nat} (f : Nat → Nat) (h : k ≤ n) : (gst n f k).length = n := by simp [gst, lst_len]; omega
theorem gst_all (n : Nat) (f : Nat → Nat) : gst n f n = lst n f := by simp [gst]
theorem gst_set {n k : Nat} (f : Nat → Nat) (h : k < n) : (gst n f k).set k ((f k : Nat) : Int) = gst n f (k + 1) := by
  unfold gst
  obtain ⟨m, hm⟩ : ∃ m, n - k = m + 1 := ⟨n - k - 1, by omega⟩
  rw [hm, show n - (k + 1) = m from by omega, List.replicate_succ, List.set_append_right _ _ (by rw [lst_len]; omega), lst_len, Nat.sub_self, lst_succ]
  simp
theorem owns_zero {w : World} {g n : Nat} (h : w.ownsRow g 3 1 (.slice (some ⟨g, 0, none⟩) n n) n (madeCells (Value.int .i64 0).cells (n * 1)).toList) (f : Nat → Nat) : Rd w g (.slice (some ⟨g, 0, none⟩) n n) (gst n f 0) := by
  unfold Rd
  rw [gst_zero, List.length_replicate, ← toList_made]
  exact h

/-- A word stored among words. -/
theorem store_word {w : World} {gw N k : Nat} {xs : List Value} (h : w.ownsRow gw 65 8 (.slice (some ⟨gw, 0, none⟩) N N) N xs) (hk : k < N) (ys : List Int) (hy : ys.length ≤ 8) :
    ∃ w', (storeCells ⟨gw, k * 8, none⟩ (dw ys).toList 0).run Try.prog w = .ok () w' ∧ w.grownBy w' (some gw) ∧ (∃ xs', w'.ownsRow gw 65 8 (.slice (some ⟨gw, 0, none⟩) N N) N xs') ∧
      (∀ i, i < 8 → w'.cell? ⟨gw, k * 8 + i, none⟩ = some (.int .i64 (ys.getD i 0))) ∧ (∀ j, (j < k * 8 ∨ k * 8 + 8 ≤ j) → w'.cell? ⟨gw, j, none⟩ = w.cell? ⟨gw, j, none⟩) := by
  rcases h.2 with ⟨h1, _⟩ | ⟨g', cap', cur, hv, hg, hh, hn, hm, hc, ht⟩
  · simp at h1
  simp only [Value.slice.injEq, Option.some.injEq, Addr.mk.injEq, and_true, true_and] at hv
  obtain ⟨rfl, rfl⟩ := hv
  have hdl : (dw ys).toList.length = 8 := by rw [Array.length_toList, dw_size hy]
  have hrun := run_storeCells_at (P := Try.prog) gw (k * 8) 65 (dw ys).toList 0 cur w hh (by rw [hdl, hc]; omega) (fun v hv => one_of_dw hv)
  rw [Nat.add_zero, hdl] at hrun
  obtain ⟨L, hL⟩ : ∃ L : List Value, L = cur.toList.take (k * 8) ++ (dw ys).toList ++ cur.toList.drop (k * 8 + 8) := ⟨_, rfl⟩
  rw [← hL] at hrun
  have hcl : cur.toList.length = N * 8 := by rw [Array.length_toList, hc]
  have hLl : L.length = N * 8 := by
    rw [hL, List.length_append, List.length_append, List.length_take, List.length_drop, hdl, hcl]
    omega
  have hh' := setRow_heap w gw cur L.toArray 65 _ hh
  have hcell : ∀ j, (w.setRow gw L.toArray).cell? ⟨gw, j, none⟩ = L[j]? := fun j => by
    rw [cell_of_row _ _ j _ _ _ hh']; simp
  have hold : ∀ j, w.cell? ⟨gw, j, none⟩ = cur.toList[j]? := fun j => by
    rw [cell_of_row _ _ j _ _ _ hh]; simp
  refine ⟨_, hrun, setRow_grown _ _ _, ⟨L, by rw [hLl], .inr ⟨gw, N, L.toArray, rfl, Nat.le_refl _, hh', Nat.le_refl _, hm, by simp [hLl], by simp [← hLl]⟩⟩, fun i hi => ?_, fun j hj => ?_⟩
  · rw [hcell, hL, List.append_assoc, List.getElem?_append_right (by rw [List.length_take, hcl]; omega), List.length_take, hcl, Nat.min_eq_left (by omega), Nat.add_sub_cancel_left, List.getElem?_append_left (by rw [hdl]; exact hi)]
    exact dw_at hy i hi
  · rw [hcell, hold, hL, List.append_assoc]
    rcases hj with hj | hj
    · rw [List.getElem?_append_left (by rw [List.length_take, hcl]; omega), List.getElem?_take, if_pos hj]
    · rw [List.getElem?_append_right (by rw [List.length_take, hcl]; omega), List.length_take, hcl, Nat.min_eq_left (by omega), List.getElem?_append_right (by rw [hdl]; omega), hdl, List.getElem?_drop]
      congr 1
      omega

/-- A slice of slices of words: the words F at the places ls. -/
structure LLw (w : World) (B : Nat) (v : Value) (vs : List Value) (ls : List (List Nat)) (F : Nat → List Int) : Prop where
  row : Rg 73 w B v vs
  len : vs.length = ls.length
  at' : ∀ (i : Nat) (u : Value) (l : List Nat), vs[i]? = some u → ls[i]? = some l → Ww w B u l.length (fun j => F (l.getD j 0))
theorem LLw.nil (w : World) (B : Nat) (F : Nat → List Int) : LLw w B (.slice none 0 0) [] [] F := ⟨Rg.nil _ _ _, rfl, fun i u l h => by simp at h⟩
theorem LLw.keep {w w' : World} {B : Nat} {v : Value} {vs : List Value} {ls : List (List Nat)} {F : Nat → List Int} (h : LLw w B v vs ls F) (hb : Below w.heap.size w w') : LLw w' B v vs ls F :=
  ⟨h.row.keep hb, h.len, fun i u l hu hl => (h.at' i u l hu hl).keep hb⟩
theorem LLw.mono {w : World} {B C : Nat} {v : Value} {vs : List Value} {ls : List (List Nat)} {F : Nat → List Int} (h : LLw w B v vs ls F) (hC : C ≤ B) : LLw w C v vs ls F :=
  ⟨h.row.mono hC, h.len, fun i u l hu hl => (h.at' i u l hu hl).mono hC⟩
theorem ww_not_row {w : World} {B C n : Nat} {v u : Value} {F : Nat → List Int} {vs : List Value} (h : Ww w B v n F) (h2 : Rg 73 w C u vs) : v.ownBlock = none ∨ v.ownBlock ≠ u.ownBlock := by
  rcases h.2 with ⟨rfl, _⟩ | ⟨g, cap, cur, rfl, _, hg, _⟩
  · exact .inl rfl
  · right
    rcases h2.2 with ⟨rfl, _⟩ | ⟨g2, cap2, cur2, rfl, _, hg2, _⟩
    · intro e; cases e
    · intro e
      simp only [Value.ownBlock, Option.some.injEq] at e
      subst e
      rw [hg] at hg2
      simp only [Option.some.injEq, Obj.cells.injEq] at hg2
      exact absurd hg2.2.1 (by decide)
theorem LLw.snoc {w w' : World} {B : Nat} {v v' u : Value} {vs : List Value} {ls : List (List Nat)} {l : List Nat} {F : Nat → List Int} {o : Obj} (h : LLw w B v vs ls F) (hu : Ww w B u l.length (fun j => F (l.getD j 0)))
    (hr : Rg 73 w' B v' (vs ++ [u])) (hg : (w.alloc o).grownBy w' v.ownBlock) : LLw w' B v' (vs ++ [u]) (ls ++ [l]) F := by
  have hrow := h.row.alloc o
  refine ⟨hr, by simp [h.len], fun i z m hz hm => ?_⟩
  by_cases hi : i < vs.length
  · rw [List.getElem?_append_left hi] at hz
    rw [List.getElem?_append_left (by rw [← h.len]; exact hi)] at hm
    have h1 := (h.at' i z m hz hm).alloc o
    exact h1.grown hg (ww_not_row h1 hrow)
  · rw [List.getElem?_append_right (by omega)] at hz
    rw [List.getElem?_append_right (by rw [← h.len]; omega)] at hm
    by_cases hi0 : i - vs.length = 0
    · rw [hi0] at hz
      rw [← h.len, hi0] at hm
      simp only [List.getElem?_cons_zero, Option.some.injEq] at hz hm
      subst hz; subst hm
      have h1 := hu.alloc o
      exact h1.grown hg (ww_not_row h1 hrow)
    · rw [List.getElem?_eq_none (by simp; omega)] at hz
      cases hz
theorem infoLW : (Try.prog.info? 73).map (fun i => (i.zero, i.size, i.bytes)) = some (some (.slice none 0 0), 1, 24) := by kernel_rfl

end Go.Proofs.Ytadjjmlneghklaa

/- from XMO -/
namespace Go.Proofs.Ytadjjmlneghklaa
open Go.RowKit
set_option linter.unusedVariables false
set_option linter.unusedSimpArgs false
set_option maxRecDepth 100000

set_option maxHeartbeats 4000000 in
theorem shapeCycles_any (V M : Nat) (w : World) (hV : V ≤ 8) (hV1 : 1 ≤ V) (hM1 : 1 ≤ M) (hM : M ≤ 15) :
    Calls Try.prog 52 #[shp (V : Int) (bA M)] w fun e w' => ∃ u vs, e = .returned u ∧ LLw w' w.heap.size u vs (cycs (fA V M) (nA V M)) (wA V M) ∧ Below w.heap.size w w' := by
  have HAG := Lib.hid (fun w' => allGaps_any V M w' hV hM)
  have HGS0 := Lib.hid (fun w' => gapStep_any V (bA M) w' (by unfold bA; omega) (by unfold bA; omega) hV hV1)
  obtain ⟨N, hN⟩ : ∃ N, N = nA V M := ⟨_, rfl⟩
  have hNb : N ≤ 3876 := by rw [hN]; exact nA_bd hV hM
  have hN1 : 1 ≤ N := by rw [hN]; exact nA_pos V M
  obtain ⟨b, hb⟩ : ∃ b, b = bA M := ⟨_, rfl⟩
  obtain ⟨LS, hLS⟩ : ∃ LS, LS = ndr (V / 2) M := ⟨_, rfl⟩
  have HLSN := Lib.hid (show LS.length = N by rw [hLS, hN]; rfl)
  change Hid (∀ w', Calls _ _ #[shp (V : Int) (bA M)] w' _) at HAG
  rw [← hb, ← hLS] at HAG
  rw [← hb] at HGS0
  rw [← hb]
  obtain ⟨w1, hw1⟩ : ∃ w1, w1 = w.alloc (.cells #[.int .i64 (V : Int), .int .i64 b] 45) := ⟨_, rfl⟩
  have HB1 := Lib.hid (show Below w.heap.size w w1.drew by rw [hw1]; exact (alloc_below w _).drew)
  have C0 := Lib.hid (show w1.drew.cell? ⟨w.heap.size, 0, none⟩ = some (.int .i64 (V : Int)) by rw [hw1]; simp [go_sem])
  have C1 := Lib.hid (show w1.drew.cell? ⟨w.heap.size, 1, none⟩ = some (.int .i64 b) by rw [hw1]; simp [go_sem])
  have HK := Lib.hid (show ∀ w' : World, Below w1.drew.heap.size w1.drew w' → w'.cell? ⟨w.heap.size, 0, none⟩ = some (.int .i64 (V : Int)) ∧ w'.cell? ⟨w.heap.size, 1, none⟩ = some (.int .i64 b) from fun w' hb => ⟨Below.keeps_cell hb C0.out, Below.keeps_cell hb C1.out⟩)
  have BB := Lib.hid (Below.refl w1.drew.heap.size w1.drew)
  obtain ⟨F, hF⟩ : ∃ F, F = wA V M := ⟨_, rfl⟩
  obtain ⟨f, hf⟩ : ∃ f, f = fA V M := ⟨_, rfl⟩
  have HFK := Lib.hid (show ∀ (k : Nat) (l : List Int), k < N → LS[k]? = some l → l.length = V / 2 ∧ (∀ x ∈ l, 0 ≤ x ∧ x ≤ b - 1) ∧ wd b V (gv b V l) = F k from fun k l hk hl => by
    rw [hLS, gA_get (by rw [← hN]; exact hk)] at hl
    cases hl
    have h1 := gA_of (show k < nA V M by rw [← hN]; exact hk)
    rw [hb, hF]
    exact ⟨h1.1, h1.2.1, rfl⟩)
  have hb2 : 2 ≤ b := by rw [hb]; unfold bA; omega
  have hb16 : b ≤ 16 := by rw [hb]; unfold bA; omega
  have HF8 := Lib.hid (show ∀ j, (F j).length ≤ 8 from fun j => by rw [hF, wA_len]; exact hV)
  have HFL := Lib.hid (show ∀ j, (F j).length = V from fun j => by rw [hF, wA_len])
  have HFA := Lib.hid (show ∀ j, ∀ x ∈ F j, 0 ≤ x ∧ x ≤ b - 1 from fun j => by rw [hF, hb]; exact wA_all hM1)
  have HFN := Lib.hid (show ∀ j, f j < N from fun j => by rw [hf, hN]; exact fA_lt hM1 j)
  have HFI := Lib.hid (show ∀ j, LS[f j]? = some (gp (F j)) from fun j => by rw [hLS, hf, hF, gA_get (fA_lt hM1 j), gA_fA hM1])
  have HLX := Lib.hid (show LS.Pairwise (fun g h => lexB g h = true) by rw [hLS]; exact ndr_lex _ _)
  have HLL := Lib.hid (show ∀ l ∈ LS, l.length = V / 2 by rw [hLS]; exact ndr_all _ _)
  have HFI2 := Lib.hid (show Into f N by rw [hf, hN]; exact fA_into hM1)
  rw [← hf, ← hN, ← hF]
  clear hLS hb hN hF hf
  go_enter Try.func52, Try.ntmps52
  go_wp2
  rw [← hw1]
  clear hw1
  go_region_held3 (fun w' => w'.cell? ⟨w.heap.size, 0, none⟩ = some (.int .i64 (V : Int)) ∧ w'.cell? ⟨w.heap.size, 1, none⟩ = some (.int .i64 b)) (exact HK.out _ BB.out) (first
    | (go_at_call 65; refine (HAG.out _).mono ?_; rintro e w3 ⟨ug, vg, rfl, hl, hbx⟩; (try have GSK := Lib.hid (GSK.out.keep hbx)); have LLK := Lib.hid (hl.mono (Nat.le_trans HB1.out.size BB.out.size)); have BB := Lib.hid (Below.step BB.out BB.out.size hbx); clear hl hbx)
    | (go_at_call 66; refine (HGS0.out _).mono ?_; rintro e w3 ⟨gq, gs, rfl, hgs, hq1, hq2, hbx⟩; (try have LLK := Lib.hid (LLK.out.keep hbx)); have GSK := Lib.hid hgs; have BB := Lib.hid (Below.step BB.out BB.out.size hbx); clear hgs hbx hq1 hq2))
  have HGB := LLK.out.lenY
  rw [HLSN.out] at HGB
  obtain ⟨ag, cg, rfl⟩ := HGB
  have LLD := Lib.hid (show LLi w3.drew w.heap.size (.slice ag N cg) vg LS from LLi.drewN LLK.out 1)
  have BD := Lib.hid (show Below w1.drew.heap.size w1.drew w3.drew from BB.out.drew)
  have BM := Lib.hid (Below.refl w3.drew.heap.size w3.drew)
  go_wp2
  go_region_held3 (fun w' => True) (trivial) (first
    | (refine upon_make 73 65 _ 8 64 Try.underlying73 infoW (by omega) N (by omega) ?_; intro gw w5 hge hlt hr hbx; (try have RN := Lib.hid (owns_keep RN.out hbx)); have RW := Lib.hid hr; have HW1 := Lib.hid (Nat.le_trans BM.out.size hge); have HW2 := Lib.hid hlt; have HW3 := Lib.hid hge; have BM := Lib.hid (Below.step BM.out BM.out.size hbx); clear hr hbx hge hlt)
    | (refine upon_make 57 3 _ 1 8 Try.underlying57 info3 (by omega) N (by omega) ?_; intro gn w5 hge hlt hr hbx; (try have RW := Lib.hid (owns_keep RW.out hbx)); have RN := Lib.hid hr; have HN1 := Lib.hid (Nat.le_trans BM.out.size hge); have HN2 := Lib.hid hlt; have HN3 := Lib.hid hge; have BM := Lib.hid (Below.step BM.out BM.out.size hbx); clear hr hbx hge hlt))
  all_goals
    have hwn : gw ≠ gn := by have := HW2.out; have := HW3.out; have := HN2.out; have := HN3.out; omega
    have HBD := Lib.hid (show ∀ i, i ≤ N → True from fun _ _ => trivial)
    go_wp2
    go_loopw [27] (fun i wr => ∃ k : Nat, k ≤ N ∧ i = .int .i64 (k : Int) ∧ WC wr gw 0 k F ∧ (∃ xs, wr.ownsRow gw 65 8 (.slice (some ⟨gw, 0, none⟩) N N) N xs) ∧ Rd wr gn (.slice (some ⟨gn, 0, none⟩) N N) (gst N f k) ∧ Below w3.drew.heap.size w3.drew wr) (fun i _ => N - (intOf i).toNat)
    case atStart => exact ⟨0, Nat.zero_le _, rfl, fun j hj => by omega, ⟨_, RW.out⟩, owns_zero RN.out f, BM.out⟩
    case round =>
      obtain ⟨k, hk, rfl, hwc, ⟨xs, hrw⟩, hrn, hbm⟩ := hrel
      have HWC := Lib.hid hwc
      have HRW := Lib.hid hrw
      have HRN := Lib.hid hrn
      have BM := Lib.hid hbm
      have LL := Lib.hid (LLD.out.keep hbm)
      have GK := Lib.hid (GS.keep (show GS w3.drew _ gq gs V b from ⟨GSK.out.worth, GSK.out.width, GSK.out.base, GSK.out.lq, GSK.out.ls⟩) hbm)
      clear hwc hrw hrn hbm
      by_cases hlt : k < N
      · obtain ⟨z, hz⟩ : ∃ z, vg[k]? = some z := ⟨vg[k]'(by rw [LL.out.len, HLSN.out]; exact hlt), by simp⟩
        obtain ⟨gv', rfl⟩ : ∃ gv', ag = some ⟨gv', 0, none⟩ := by
          rcases LL.out.row.cases with ⟨he, h0⟩ | ⟨g0, c0, he⟩
          · simp only [Value.slice.injEq] at he; omega
          · simp only [Value.slice.injEq] at he; exact ⟨g0, he.1⟩
        have hcell : wr.cell? ⟨gv', k, none⟩ = some z := LL.out.f.cell hz
        obtain ⟨lz, hlz, hrz⟩ := LL.out.rd hz
        have HRZ := Lib.hid hrz
        have HFG := Lib.hid (HFK.out k lz hlt hlz)
        obtain ⟨a1, c1, rfl⟩ := hrz.shape'
        clear hz hrz hlz
        have HFC := Lib.hid (fun (B0 : Nat) (w' : World) (h : Sl w' (.slice a1 lz.length c1) lz) (hG : GS w' B0 gq gs V b) => fromGaps_any (.slice a1 lz.length c1) lz gq gs V b w' h hG hb2 hb16 hV HFG.out.1 HFG.out.2.1)
        rw [HFG.out.2.2] at HFC
        have HGP := Lib.hid (fun (w' : World) => gaps_any (F k) b w' (HF8.out k) hb16 (HFA.out k))
        rw [HFL.out k, dw_lit (HF8.out k)] at HGP
        have HSW := Lib.hid (fun (w' : World) (xs' : List Value) (h : w'.ownsRow gw 65 8 (.slice (some ⟨gw, 0, none⟩) N N) N xs') => store_word h hlt (F k) (HF8.out k))
        have hsz := dw_size (HF8.out k)
        obtain ⟨cs, hcs⟩ : ∃ cs, cs = dw (F k) := ⟨_, rfl⟩
        rw [← hcs] at HFC HSW hsz
        clear hcs
        obtain ⟨d0, hd0⟩ : ∃ d, d = (F k).getD 0 0 := ⟨_, rfl⟩
        obtain ⟨d1, hd1⟩ : ∃ d, d = (F k).getD 1 0 := ⟨_, rfl⟩
        obtain ⟨d2, hd2⟩ : ∃ d, d = (F k).getD 2 0 := ⟨_, rfl⟩
        obtain ⟨d3, hd3⟩ : ∃ d, d = (F k).getD 3 0 := ⟨_, rfl⟩
        obtain ⟨d4, hd4⟩ : ∃ d, d = (F k).getD 4 0 := ⟨_, rfl⟩
        obtain ⟨d5, hd5⟩ : ∃ d, d = (F k).getD 5 0 := ⟨_, rfl⟩
        obtain ⟨d6, hd6⟩ : ∃ d, d = (F k).getD 6 0 := ⟨_, rfl⟩
        obtain ⟨d7, hd7⟩ : ∃ d, d = (F k).getD 7 0 := ⟨_, rfl⟩
        rw [← hd0, ← hd1, ← hd2, ← hd3, ← hd4, ← hd5, ← hd6, ← hd7] at HGP
        have HBS := Lib.hid (fun (u : Value) (w' : World) (h : LLi w' w.heap.size (.slice (some ⟨gv', 0, none⟩) N cg) vg LS) (hu : Sl w' u (gp (F k))) => bsf_any (.slice (some ⟨gv', 0, none⟩) N cg) u vg (lsZ LS) N (f k) (V / 2) w.heap.size w' h.f (by rw [h.len, HLSN.out])
          (by unfold lsZ; rw [List.getD_eq_getElem?_getD, HFI.out k]; exact hu) (HFN.out k) (fun i hi => by unfold lsZ; rw [List.getD_eq_getElem?_getD, List.getElem?_eq_getElem (by rw [HLSN.out]; exact hi)]; exact HLL.out _ (List.getElem_mem _)) (by omega)
          (fun i j hij hj => by unfold lsZ; rw [List.getD_eq_getElem?_getD, List.getD_eq_getElem?_getD, List.getElem?_eq_getElem (by rw [HLSN.out]; omega), List.getElem?_eq_getElem (by rw [HLSN.out]; exact hj)]; exact List.pairwise_iff_getElem.1 HLX.out i j (by rw [HLSN.out]; omega) (by rw [HLSN.out]; exact hj) hij) (by omega))
        go_wp2_with fail
        refine (HFC.out _ _ HRZ.out.sl GK.out).mono ?_
        rintro e w6 ⟨rfl, hb6⟩
        obtain ⟨w7, hst, hg7, hx7, hc7, ho7⟩ := HSW.out w6 _ (owns_keep HRW.out hb6)
        have B6 := Lib.hid (Below.step BM.out BM.out.size hb6)
        have B7 := Lib.hid (B6.out.grown hg7 B6.out.size (fun q hq => by cases hq; exact HW1.out))
        have R7 := Lib.hid hx7
        have N7 := Lib.hid (((HRN.out.keep hb6).grown hg7 (.inr (fun e => by simp only [Value.ownBlock, Option.some.injEq] at e; exact hwn e.symm))).drew)
        have W7 := Lib.hid (show WC w7 gw 0 (k + 1) F from fun j hj i hi => by
          rw [Nat.zero_add]
          by_cases e : j = k
          · subst e; exact hc7 i hi
          · rw [ho7 _ (.inl (by omega))]
            have := (HWC.out.keep hb6) j (by omega) i hi
            rwa [Nat.zero_add] at this)
        have L7 := Lib.hid (LLi.drewN (LLD.out.keep B7.out) 1)
        have L7 := Lib.hid (show LLi w7.drew _ _ vg LS from ⟨L7.out.row, L7.out.len, L7.out.at', L7.out.apart⟩)
        have BW7 := Lib.hid (show Below w1.drew.heap.size w1.drew w7.drew from (Below.step BD.out BD.out.size B7.out).drew)
        have y0 : w7.drew.cell? ⟨gw, k * 8, none⟩ = some (.int .i64 d0) := by rw [hd0]; exact hc7 0 (by omega)
        have y1 : w7.drew.cell? ⟨gw, k * 8 + 1, none⟩ = some (.int .i64 d1) := by rw [hd1]; exact hc7 1 (by omega)
        have y2 : w7.drew.cell? ⟨gw, k * 8 + 2, none⟩ = some (.int .i64 d2) := by rw [hd2]; exact hc7 2 (by omega)
        have y3 : w7.drew.cell? ⟨gw, k * 8 + 3, none⟩ = some (.int .i64 d3) := by rw [hd3]; exact hc7 3 (by omega)
        have y4 : w7.drew.cell? ⟨gw, k * 8 + 4, none⟩ = some (.int .i64 d4) := by rw [hd4]; exact hc7 4 (by omega)
        have y5 : w7.drew.cell? ⟨gw, k * 8 + 5, none⟩ = some (.int .i64 d5) := by rw [hd5]; exact hc7 5 (by omega)
        have y6 : w7.drew.cell? ⟨gw, k * 8 + 6, none⟩ = some (.int .i64 d6) := by rw [hd6]; exact hc7 6 (by omega)
        have y7 : w7.drew.cell? ⟨gw, k * 8 + 7, none⟩ = some (.int .i64 d7) := by rw [hd7]; exact hc7 7 (by omega)
        have HKS := Lib.hid (show ∀ w' : World, Below w7.drew.heap.size w7.drew w' → w'.cell? ⟨w.heap.size, 0, none⟩ = some (.int .i64 (V : Int)) ∧ w'.cell? ⟨w.heap.size, 1, none⟩ = some (.int .i64 b) ∧ w'.cell? ⟨gw, k * 8, none⟩ = some (.int .i64 d0) ∧ w'.cell? ⟨gw, k * 8 + 1, none⟩ = some (.int .i64 d1) ∧ w'.cell? ⟨gw, k * 8 + 2, none⟩ = some (.int .i64 d2) ∧ w'.cell? ⟨gw, k * 8 + 3, none⟩ = some (.int .i64 d3) ∧ w'.cell? ⟨gw, k * 8 + 4, none⟩ = some (.int .i64 d4) ∧ w'.cell? ⟨gw, k * 8 + 5, none⟩ = some (.int .i64 d5) ∧ w'.cell? ⟨gw, k * 8 + 6, none⟩ = some (.int .i64 d6) ∧ w'.cell? ⟨gw, k * 8 + 7, none⟩ = some (.int .i64 d7) from fun w' hb =>
          ⟨(HK.out w' (Below.step BW7.out BW7.out.size hb)).1, (HK.out w' (Below.step BW7.out BW7.out.size hb)).2, Below.keeps_cell hb y0, Below.keeps_cell hb y1, Below.keeps_cell hb y2, Below.keeps_cell hb y3, Below.keeps_cell hb y4, Below.keeps_cell hb y5, Below.keeps_cell hb y6, Below.keeps_cell hb y7⟩)
        have HGN := Lib.hid (show w.heap.size ≠ gn from fun e => by have h1 := HN1.out; have h2 := BD.out.size; have h3 : w.heap.size < w1.drew.heap.size := World.block_lt_of_cell? w1.drew ⟨w.heap.size, 0, none⟩ C0.out; omega)
        have HKT := Lib.hid (show ∀ (w' : World) (u : Value), Below w7.drew.heap.size w7.drew w' → (w'.setCell ⟨gn, k, none⟩ u).cell? ⟨w.heap.size, 0, none⟩ = some (.int .i64 (V : Int)) ∧ (w'.setCell ⟨gn, k, none⟩ u).cell? ⟨w.heap.size, 1, none⟩ = some (.int .i64 b) ∧ (w'.setCell ⟨gn, k, none⟩ u).cell? ⟨gw, k * 8, none⟩ = some (.int .i64 d0) ∧ (w'.setCell ⟨gn, k, none⟩ u).cell? ⟨gw, k * 8 + 1, none⟩ = some (.int .i64 d1) ∧ (w'.setCell ⟨gn, k, none⟩ u).cell? ⟨gw, k * 8 + 2, none⟩ = some (.int .i64 d2) ∧ (w'.setCell ⟨gn, k, none⟩ u).cell? ⟨gw, k * 8 + 3, none⟩ = some (.int .i64 d3) ∧ (w'.setCell ⟨gn, k, none⟩ u).cell? ⟨gw, k * 8 + 4, none⟩ = some (.int .i64 d4) ∧ (w'.setCell ⟨gn, k, none⟩ u).cell? ⟨gw, k * 8 + 5, none⟩ = some (.int .i64 d5) ∧ (w'.setCell ⟨gn, k, none⟩ u).cell? ⟨gw, k * 8 + 6, none⟩ = some (.int .i64 d6) ∧ (w'.setCell ⟨gn, k, none⟩ u).cell? ⟨gw, k * 8 + 7, none⟩ = some (.int .i64 d7) from fun w' u hb => by
          obtain ⟨s0, s1, t0, t1, t2, t3, t4, t5, t6, t7⟩ := HKS.out w' hb
          exact ⟨(World.cell?_setCell_other _ _ _ _ (fun e => HGN.out (congrArg Addr.block e).symm)).trans s0, (World.cell?_setCell_other _ _ _ _ (fun e => HGN.out (congrArg Addr.block e).symm)).trans s1, (World.cell?_setCell_other _ _ _ _ (fun e => hwn (congrArg Addr.block e).symm)).trans t0, (World.cell?_setCell_other _ _ _ _ (fun e => hwn (congrArg Addr.block e).symm)).trans t1, (World.cell?_setCell_other _ _ _ _ (fun e => hwn (congrArg Addr.block e).symm)).trans t2, (World.cell?_setCell_other _ _ _ _ (fun e => hwn (congrArg Addr.block e).symm)).trans t3, (World.cell?_setCell_other _ _ _ _ (fun e => hwn (congrArg Addr.block e).symm)).trans t4, (World.cell?_setCell_other _ _ _ _ (fun e => hwn (congrArg Addr.block e).symm)).trans t5, (World.cell?_setCell_other _ _ _ _ (fun e => hwn (congrArg Addr.block e).symm)).trans t6, (World.cell?_setCell_other _ _ _ _ (fun e => hwn (congrArg Addr.block e).symm)).trans t7⟩)
        have BK := Lib.hid (Below.refl w7.drew.heap.size w7.drew)
        clear hb6 hg7 hx7 hc7 ho7 y0 hd0 y1 hd1 y2 hd2 y3 hd3 y4 hd4 y5 hd5 y6 hd6 y7 hd7
        go_wp2
        clear hst
        go_region_held3 (fun w' => w'.cell? ⟨w.heap.size, 0, none⟩ = some (.int .i64 (V : Int)) ∧ w'.cell? ⟨w.heap.size, 1, none⟩ = some (.int .i64 b) ∧ w'.cell? ⟨gw, k * 8, none⟩ = some (.int .i64 d0) ∧ w'.cell? ⟨gw, k * 8 + 1, none⟩ = some (.int .i64 d1) ∧ w'.cell? ⟨gw, k * 8 + 2, none⟩ = some (.int .i64 d2) ∧ w'.cell? ⟨gw, k * 8 + 3, none⟩ = some (.int .i64 d3) ∧ w'.cell? ⟨gw, k * 8 + 4, none⟩ = some (.int .i64 d4) ∧ w'.cell? ⟨gw, k * 8 + 5, none⟩ = some (.int .i64 d5) ∧ w'.cell? ⟨gw, k * 8 + 6, none⟩ = some (.int .i64 d6) ∧ w'.cell? ⟨gw, k * 8 + 7, none⟩ = some (.int .i64 d7)) (first | exact HKS.out _ BK.out | exact HKT.out _ _ BK.out) (first
          | (go_at_call 68; refine (HGP.out _).mono ?_; rintro e w8 ⟨u8, rfl, hr8, hb8⟩; have R8 := Lib.hid hr8; have N8 := Lib.hid (N7.out.keep hb8); have L8 := Lib.hid (L7.out.keep hb8); have BK := Lib.hid hb8; have W8 := Lib.hid ((WC.drew W7.out).keep hb8); have O8 := Lib.hid (show ∃ xs, w8.ownsRow gw 65 8 (.slice (some ⟨gw, 0, none⟩) N N) N xs from R7.out.elim fun xs h => ⟨xs, owns_keep (w := w7.drew) h hb8⟩); have B8 := Lib.hid (Below.step (B7.out.drew) (B7.out.drew).size hb8); clear hr8 hb8)
          | (go_at_call 67; refine (HBS.out u8 _ L8.out R8.out.sl).mono ?_; rintro e w9 ⟨rfl, rfl⟩; have hcn := N8.out.at.2.2.2.2.1 k (by rw [gst_len f (Nat.le_of_lt hlt)]; exact hlt); have hfn := N8.out.at.2.2.2.2.2 k))
        go_wp2
        go_roundw
        case rel =>
          have hst2 := N8.out.set k ((f k : Nat) : Int)
          rw [gst_set f hlt] at hst2
          refine ⟨k + 1, by omega, by go_num, fun j hj i hi => hst2.2.cell (W8.out j hj i hi) (fun e => hwn (by simpa using e)), O8.out.elim fun xs h => ⟨xs, World.ownsRow.kept h hst2.2 (.inr (fun e => hwn (by simpa [Value.ownBlock] using e)))⟩, hst2.1, B8.out.setCell HN1.out _⟩
        case measure => simp [intOf]; omega
      · obtain rfl : N = k := by omega
        have HM := Lib.hid (show Mg wr gn N f from ⟨HRN.out.at.2.2.1, fun j hj => by
            have h1 := HRN.out.at.2.2.2.2.1 j (by rw [gst_len f (Nat.le_refl _)]; exact hj)
            rw [h1]
            simp only [gst_all]
            rw [lst_at], HFI2.out, hN1, by omega⟩)
        go_wp2_with (go_at_call 37; refine (cycles_any gn N N f _ HM.out).mono ?_; rintro e w10 ⟨uc, vc, rfl, hlc, hb10⟩; obtain ⟨ac, cc, rfl⟩ := hlc.row.lenR hlc.len; have LC := Lib.hid hlc; have B10 := Lib.hid (Below.step BM.out BM.out.size hb10); have W10 := Lib.hid (HWC.out.keep hb10); clear hlc hb10)
        obtain ⟨CS, hCS⟩ : ∃ CS, CS = cycs f N := ⟨_, rfl⟩
        have HCN := Lib.hid (show CS.length ≤ N by rw [hCS]; exact cycsTo_len f N N)
        have HCM := Lib.hid (show ∀ (k : Nat) (l : List Nat), CS[k]? = some l → l.length ≤ N ∧ ∀ x ∈ l, x < N from fun k l hl => by
          have hm := List.mem_of_getElem? hl
          rw [hCS] at hm
          unfold cycs cycsTo at hm
          rw [List.mem_map] at hm
          obtain ⟨m, hm1, rfl⟩ := hm
          rw [List.mem_filter] at hm1
          have hc := ((lead_iff HFI2.out).1 hm1.2).1
          exact ⟨by rw [rnd_len]; exact (per_spec HFI2.out hc).2.1, fun x hx => by obtain ⟨j, _, rfl⟩ := mem_rnd.1 hx; exact it_lt HFI2.out j (cyc_lt HFI2.out hc)⟩)
        have hcn := HCN.out
        have HCS := Lib.hid hCS
        have HVC := Lib.hid (show vc.length = CS.length by rw [hCS]; exact LC.out.len)
        rw [← hCS] at LC
        rw [← hCS]
        clear hCS
        have BW := Lib.hid (show Below w.heap.size w w10 from Below.step HB1.out HB1.out.size (Below.step BD.out BD.out.size B10.out))
        go_wp2
        go_loopw [9, 56] (fun o i wr => ∃ (k : Nat) (vs : List Value), k ≤ CS.length ∧ i = .int .i64 (k : Int) ∧ LLw wr w10.heap.size o vs (CS.take k) F ∧ Below w10.heap.size w10 wr) (fun _ i _ => CS.length - (intOf i).toNat)
        case atStart => exact ⟨0, [], Nat.zero_le _, rfl, LLw.nil _ _ _, Below.refl _ _⟩
        case round =>
          obtain ⟨k, vs, hk, rfl, hlw, hbl⟩ := hrel
          have LW := Lib.hid hlw
          have HB := Lib.hid hbl
          obtain ⟨a9, c9, rfl⟩ := hlw.row.lenR (show vs.length = k by rw [hlw.len, List.length_take]; omega)
          clear hlw hbl
          by_cases hlt : k < CS.length
          · obtain ⟨z, hz⟩ : ∃ z, vc[k]? = some z := ⟨vc[k]'(by rw [HVC.out]; exact hlt), by simp⟩
            obtain ⟨gc, rfl⟩ : ∃ gc, ac = some ⟨gc, 0, none⟩ := by
              rcases LC.out.row.cases with ⟨he, h0⟩ | ⟨g0, c0, he⟩
              · simp only [Value.slice.injEq] at he; omega
              · simp only [Value.slice.injEq] at he; exact ⟨g0, he.1⟩
            have hcell : wr.cell? ⟨gc, k, none⟩ = some z := Below.keeps_cell HB.out (by
              have h1 := LC.out.row.at.2.2.2.2.2.1 k (by rw [HVC.out]; exact hlt)
              rw [h1, ← hz]; simp [HVC.out, hlt])
            obtain ⟨cl, hcl, hrz⟩ := LC.out.rd hz
            have HRZ := Lib.hid hrz
            obtain ⟨hcl1, hcl2⟩ := HCM.out k cl hcl
            have HCL2 := Lib.hid hcl2
            have HTK := Lib.hid (show CS.take (k + 1) = CS.take k ++ [cl] by rw [List.take_add_one, hcl]; rfl)
            obtain ⟨a1, c1, rfl⟩ := hrz.shape'
            have hnl : (nts cl).length = cl.length := nts_len cl
            obtain ⟨n, hn⟩ : ∃ n, n = cl.length := ⟨_, rfl⟩
            have HNL := Lib.hid hn
            rw [hnl, ← hn] at HRZ hcell
            rw [← hn] at hcl1
            clear hz hrz hcl hcl2 hnl hn
            obtain ⟨wo, rfl⟩ : ∃ wo : World, wo = wr := ⟨wr, rfl⟩
            have W11 := Lib.hid (W10.out.keep HB.out)
            go_wp2
            go_loopw [12, 62] (fun u i w2 => ∃ j : Nat, j ≤ n ∧ i = .int .i64 (j : Int) ∧ Ww w2 wo.heap.size u j (fun t => F (cl.getD t 0)) ∧ Below wo.heap.size wo w2) (fun _ i _ => n - (intOf i).toNat)
            case atStart => exact ⟨0, Nat.zero_le _, rfl, Ww.nil _ _ _, Below.refl _ _⟩
            case round =>
              obtain ⟨j, hj, rfl, hu, hb2⟩ := hrel
              have HU := Lib.hid hu
              have HB2 := Lib.hid hb2
              obtain ⟨a12, c12, rfl⟩ := hu.lenOf
              clear hu hb2
              by_cases hlt2 : j < n
              · have hjl : j < cl.length := by rw [← HNL.out]; exact hlt2
                obtain ⟨x, hx⟩ : ∃ x, x = cl[j] := ⟨_, rfl⟩
                have hxN : x < N := by rw [hx]; exact HCL2.out _ (List.getElem_mem hjl)
                have HXD := Lib.hid (show cl.getD j 0 = x by rw [List.getD_eq_getElem?_getD, List.getElem?_eq_getElem hjl, hx]; rfl)
                obtain ⟨g1, rfl⟩ : ∃ g1, a1 = some ⟨g1, 0, none⟩ := by
                  rcases HRZ.out.cases with ⟨he, h0⟩ | ⟨g0, c0, he, _⟩
                  · simp only [Value.slice.injEq] at he; omega
                  · simp only [Value.slice.injEq] at he; exact ⟨g0, he.1⟩
                have hcx : wr.cell? ⟨g1, j, none⟩ = some (.int .i64 (x : Int)) := Below.keeps_cell HB2.out (Below.keeps_cell HB.out (by
                  have h1 := HRZ.out.at.2.2.2.2.1 j (by rw [nts_len]; exact hjl)
                  rw [h1, hx]; simp [nts]))
                have W12 := W11.out.keep HB2.out
                have k0 : wr.cell? ⟨gw, x * 8, none⟩ = some (.int .i64 ((F x).getD 0 0)) := by have := W12 x hxN 0 (by omega); rwa [Nat.zero_add] at this
                have k1 : wr.cell? ⟨gw, x * 8 + 1, none⟩ = some (.int .i64 ((F x).getD 1 0)) := by have := W12 x hxN 1 (by omega); rwa [Nat.zero_add] at this
                have k2 : wr.cell? ⟨gw, x * 8 + 2, none⟩ = some (.int .i64 ((F x).getD 2 0)) := by have := W12 x hxN 2 (by omega); rwa [Nat.zero_add] at this
                have k3 : wr.cell? ⟨gw, x * 8 + 3, none⟩ = some (.int .i64 ((F x).getD 3 0)) := by have := W12 x hxN 3 (by omega); rwa [Nat.zero_add] at this
                have k4 : wr.cell? ⟨gw, x * 8 + 4, none⟩ = some (.int .i64 ((F x).getD 4 0)) := by have := W12 x hxN 4 (by omega); rwa [Nat.zero_add] at this
                have k5 : wr.cell? ⟨gw, x * 8 + 5, none⟩ = some (.int .i64 ((F x).getD 5 0)) := by have := W12 x hxN 5 (by omega); rwa [Nat.zero_add] at this
                have k6 : wr.cell? ⟨gw, x * 8 + 6, none⟩ = some (.int .i64 ((F x).getD 6 0)) := by have := W12 x hxN 6 (by omega); rwa [Nat.zero_add] at this
                have k7 : wr.cell? ⟨gw, x * 8 + 7, none⟩ = some (.int .i64 ((F x).getD 7 0)) := by have := W12 x hxN 7 (by omega); rwa [Nat.zero_add] at this
                have HCD := Lib.hid (dw_lit (HF8.out x))
                obtain ⟨d0, hd0⟩ : ∃ d, d = (F x).getD 0 0 := ⟨_, rfl⟩
                obtain ⟨d1, hd1⟩ : ∃ d, d = (F x).getD 1 0 := ⟨_, rfl⟩
                obtain ⟨d2, hd2⟩ : ∃ d, d = (F x).getD 2 0 := ⟨_, rfl⟩
                obtain ⟨d3, hd3⟩ : ∃ d, d = (F x).getD 3 0 := ⟨_, rfl⟩
                obtain ⟨d4, hd4⟩ : ∃ d, d = (F x).getD 4 0 := ⟨_, rfl⟩
                obtain ⟨d5, hd5⟩ : ∃ d, d = (F x).getD 5 0 := ⟨_, rfl⟩
                obtain ⟨d6, hd6⟩ : ∃ d, d = (F x).getD 6 0 := ⟨_, rfl⟩
                obtain ⟨d7, hd7⟩ : ∃ d, d = (F x).getD 7 0 := ⟨_, rfl⟩
                rw [← hd0, ← hd1, ← hd2, ← hd3, ← hd4, ← hd5, ← hd6, ← hd7] at HCD
                rw [← hd0] at k0
                rw [← hd1] at k1
                rw [← hd2] at k2
                rw [← hd3] at k3
                rw [← hd4] at k4
                rw [← hd5] at k5
                rw [← hd6] at k6
                rw [← hd7] at k7
                clear hd0 hd1 hd2 hd3 hd4 hd5 hd6 hd7 W12 hx
                have HSL := Lib.hid (show SrcW (wr.alloc (.cells #[.int .i64 d0, .int .i64 d1, .int .i64 d2, .int .i64 d3, .int .i64 d4, .int .i64 d5, .int .i64 d6, .int .i64 d7] 65)) (.slice (some ⟨wr.heap.size, 0, none⟩) 1 1) 1 (fun _ => F x) from .inr ⟨wr.heap.size, 0, 1, rfl, fun j hj i hi => by
                  obtain rfl : j = 0 := by omega
                  rw [show 0 + 0 * 8 + i = i by omega]
                  exact dw_cells (HF8.out x) (by rw [HCD.out]; exact heap_alloc_new wr _) i hi⟩)
                have HWC2 := Lib.hid (show wcs j (fun t => F (cl.getD t 0)) ++ wcs 1 (fun _ => F x) = wcs (j + 1) (fun t => F (cl.getD t 0)) by rw [wcs_succ, wcs_succ, wcs_zero, List.nil_append, HXD.out])
                go_wp2_with (first
                  | (at_builtin; refine wpList_appW rfl (.tmp 66) (.tmp 71) rfl wo.heap.size _ _ j 1 (fun t => F (cl.getD t 0)) (fun _ => F x) rfl rfl (HU.out.alloc _) HSL.out (fun _ => HF8.out x) (by omega) (by have := HB2.out.size; simp; omega) ?_; intro v4 w4 hr4 hg4 hb4; have U4 := Lib.hid (show Ww w4 wo.heap.size v4 (j + 1) (fun t => F (cl.getD t 0)) by unfold Ww; rw [← HWC2.out]; exact hr4); have B4 := Lib.hid ((HB2.out.alloc HB2.out.size _).trans hb4); clear hr4 hg4 hb4))
                go_roundw
                case rel => exact ⟨j + 1, by omega, by go_num, U4.out, B4.out⟩
                case measure => simp [intOf]; omega
              · obtain rfl : n = j := by omega
                have LW2 := Lib.hid (LW.out.keep HB2.out)
                have HU2 := Lib.hid (show Ww wr w10.heap.size (.slice a12 n c12) cl.length (fun t => F (cl.getD t 0)) by rw [← HNL.out]; exact HU.out.mono HB.out.size)
                have BO2 := Lib.hid (Below.step HB.out HB.out.size HB2.out)
                have HVK := Lib.hid (show vs.length = k by rw [LW.out.len, List.length_take]; omega)
                go_wp2_with (at_builtin; refine wpList_appG rfl (.tmp 74) (.tmp 76) _ 73 (.slice none 0 0) 24 Try.underlying71 infoLW (by omega) rfl rfl w10.heap.size w10.heap.size _ _ vs _ rfl rfl (LW2.out.row.alloc _) (Rg.lit _ _ _ _ BO2.out.size) (by simp [Value.oneCell']) (by rw [HVK.out]; simp; omega) (by have := BO2.out.size; simp; omega) ?_; intro v3 w3 hr3 hg3 hb3; have N3 := Lib.hid (LW2.out.snoc HU2.out hr3 hg3); have B3 := Lib.hid ((BO2.out.alloc BO2.out.size _).trans hb3); clear hr3 hg3 hb3)
                go_roundw
                case rel => exact ⟨k + 1, _, by omega, by go_num, by rw [HTK.out]; exact N3.out, B3.out⟩
                case measure => simp [intOf]; omega
          · obtain rfl : CS.length = k := by omega
            go_wp2
            go_ret
            refine ⟨.slice a9 CS.length c9, vs, rfl, ?_, Below.step BW.out BW.out.size HB.out⟩
            have := LW.out.mono BW.out.size
            rw [List.take_of_length_le (Nat.le_refl _)] at this
            rw [← HCS.out]
            exact this

end Go.Proofs.Ytadjjmlneghklaa

/- from XMP -/
namespace Go.Proofs.Ytadjjmlneghklaa
open Go.RowKit
set_option linter.unusedVariables false
set_option linter.unusedSimpArgs false
set_option maxRecDepth 100000

/-- The first numbers of the lists of one. -/
def fixP (ls : List (List Nat)) : List Nat := (ls.filter fun c => c.length == 1).map fun c => c.getD 0 0
theorem fixP_snoc (ls : List (List Nat)) (l : List Nat) : fixP (ls ++ [l]) = if l.length = 1 then fixP ls ++ [l.getD 0 0] else fixP ls := by
  unfold fixP
  rw [List.filter_append, List.map_append]
  by_cases h : l.length = 1
  · rw [if_pos h]; simp [h]
  · rw [if_neg h]; simp [h]
theorem fixP_len (ls : List (List Nat)) : (fixP ls).length ≤ ls.length := by
  unfold fixP
  rw [List.length_map]
  exact List.length_filter_le _ _
theorem rls_map (F : Nat → List Int) (ps : List Nat) : rls (fun t => F (ps.getD t 0)) ps.length = ps.map F := by
  apply List.ext_getElem?
  intro j
  by_cases hj : j < ps.length
  · rw [rls_get _ hj, List.getElem?_map, List.getElem?_eq_getElem hj, List.getD_eq_getElem?_getD, List.getElem?_eq_getElem hj]; rfl
  · rw [List.getElem?_eq_none (by rw [rls_len]; omega), List.getElem?_eq_none (by simp; omega)]

set_option maxHeartbeats 2000000 in
theorem fixedWords_any (V M : Nat) (w : World) (hV : V ≤ 8) (hV1 : 1 ≤ V) (hM1 : 1 ≤ M) (hM : M ≤ 15) :
    Calls Try.prog 29 #[shp (V : Int) (bA M)] w fun e w' => ∃ u vs, e = .returned u ∧ LLi w' w.heap.size u vs ((fixP (cycs (fA V M) (nA V M))).map (wA V M)) ∧ Below w.heap.size w w' := by
  have HSC := Lib.hid (fun w' => shapeCycles_any V M w' hV hV1 hM1 hM)
  obtain ⟨b, hb⟩ : ∃ b, b = bA M := ⟨_, rfl⟩
  obtain ⟨F, hF⟩ : ∃ F, F = wA V M := ⟨_, rfl⟩
  have HF8 := Lib.hid (show ∀ j, (F j).length ≤ 8 from fun j => by rw [hF, wA_len]; exact hV)
  have HFL := Lib.hid (show ∀ j, (F j).length = V from fun j => by rw [hF, wA_len])
  obtain ⟨CS, hCS⟩ : ∃ CS, CS = cycs (fA V M) (nA V M) := ⟨_, rfl⟩
  have hcn : CS.length ≤ 3876 := by
    have h1 := cycsTo_len (fA V M) (nA V M) (nA V M)
    have h2 := nA_bd hV hM
    rw [hCS]; unfold cycs; omega
  rw [← hb, ← hF, ← hCS] at HSC
  rw [← hb, ← hF, ← hCS]
  obtain ⟨w1, hw1⟩ : ∃ w1, w1 = w.alloc (.cells #[.int .i64 (V : Int), .int .i64 b] 45) := ⟨_, rfl⟩
  have HB1 := Lib.hid (show Below w.heap.size w w1 by rw [hw1]; exact alloc_below w _)
  have c0 : w1.cell? ⟨w.heap.size, 0, none⟩ = some (.int .i64 (V : Int)) := by rw [hw1]; simp [go_sem]
  have c1 : w1.cell? ⟨w.heap.size, 1, none⟩ = some (.int .i64 b) := by rw [hw1]; simp [go_sem]
  have C0 := Lib.hid c0
  have C1 := Lib.hid c1
  clear hb hF hCS c0 c1
  go_enter Try.func29, Try.ntmps29
  go_wp2_with fail
  rw [← hw1]
  refine (HSC.out _).mono ?_
  rintro e w10 ⟨uc, vc, rfl, hlc, hb10⟩
  obtain ⟨ac, cc, rfl⟩ := hlc.row.lenR hlc.len
  have LC := Lib.hid hlc
  have HVC := Lib.hid hlc.len
  have B10 := Lib.hid (Below.step HB1.out HB1.out.size hb10)
  have D0 := Lib.hid (Below.keeps_cell hb10 C0.out)
  have D1 := Lib.hid (Below.keeps_cell hb10 C1.out)
  clear hlc hb10 hw1
  go_wp2
  go_loopw [3, 9] (fun o i wr => ∃ k : Nat, k ≤ CS.length ∧ i = .int .i64 (k : Int) ∧ Ww wr w10.heap.size o (fixP (CS.take k)).length (fun t => F ((fixP (CS.take k)).getD t 0)) ∧ Below w10.heap.size w10 wr) (fun _ i _ => CS.length - (intOf i).toNat)
  case atStart => exact ⟨0, Nat.zero_le _, rfl, Ww.nil _ _ _, Below.refl _ _⟩
  case round =>
    obtain ⟨k, hk, rfl, hu, hbl⟩ := hrel
    have HB := Lib.hid hbl
    obtain ⟨P, hP⟩ : ∃ P, P = fixP (CS.take k) := ⟨_, rfl⟩
    have HP := Lib.hid hP
    rw [← hP] at hu
    have HU := Lib.hid hu
    obtain ⟨a3, c3, rfl⟩ := hu.lenOf
    have hpl : P.length ≤ 3876 := by
      have h1 := fixP_len (CS.take k)
      rw [← hP, List.length_take] at h1
      omega
    clear hu hbl hP
    by_cases hlt : k < CS.length
    · obtain ⟨z, hz⟩ : ∃ z, vc[k]? = some z := ⟨vc[k]'(by rw [HVC.out]; exact hlt), by simp⟩
      obtain ⟨gc, rfl⟩ : ∃ gc, ac = some ⟨gc, 0, none⟩ := by
        rcases LC.out.row.cases with ⟨he, h0⟩ | ⟨g0, c0, he⟩
        · simp only [Value.slice.injEq] at he; omega
        · simp only [Value.slice.injEq] at he; exact ⟨g0, he.1⟩
      have hcell : wr.cell? ⟨gc, k, none⟩ = some z := Below.keeps_cell HB.out (by
        have h1 := LC.out.row.at.2.2.2.2.2.1 k (by rw [HVC.out]; exact hlt)
        rw [h1, ← hz]; simp [HVC.out, hlt])
      obtain ⟨cl, hcl⟩ : ∃ cl, CS[k]? = some cl := ⟨CS[k], by simp [hlt]⟩
      have hrz := (LC.out.at' k z cl hz hcl).keep HB.out
      have HRZ := Lib.hid hrz
      have HTK := Lib.hid (show fixP (CS.take (k + 1)) = if cl.length = 1 then P ++ [cl.getD 0 0] else P by rw [List.take_add_one, hcl, HP.out]; exact fixP_snoc _ _)
      obtain ⟨a1, c1, rfl⟩ := hrz.lenOf
      obtain ⟨n, hn⟩ : ∃ n, n = cl.length := ⟨_, rfl⟩
      rw [← hn] at HRZ HTK hcell
      clear hz hrz hcl hn
      by_cases hn1 : n = 1
      · subst hn1
        rw [if_pos rfl] at HTK
        obtain ⟨g1, rfl⟩ : ∃ g1, a1 = some ⟨g1, 0, none⟩ := by
          rcases HRZ.out.shape with ⟨he, h0⟩ | ⟨g0, c0, he⟩
          · omega
          · simp only [Value.slice.injEq] at he; exact ⟨g0, he.1⟩
        have hwc : ∀ i, i < 8 → wr.cell? ⟨g1, 0 + 0 * 8 + i, none⟩ = some (.int .i64 ((F (cl.getD 0 0)).getD i 0)) := (HRZ.out.wc (fun j => HF8.out _)).2.2.1 0 (by omega)
        obtain ⟨x, hx⟩ : ∃ x, x = cl.getD 0 0 := ⟨_, rfl⟩
        rw [← hx] at HTK
        rw [← hx] at hwc
        have k0 : wr.cell? ⟨g1, 0, none⟩ = some (.int .i64 ((F x).getD 0 0)) := by have := hwc 0 (by omega); rwa [show 0 + 0 * 8 + 0 = 0 by omega] at this
        have k1 : wr.cell? ⟨g1, 1, none⟩ = some (.int .i64 ((F x).getD 1 0)) := by have := hwc 1 (by omega); rwa [show 0 + 0 * 8 + 1 = 1 by omega] at this
        have k2 : wr.cell? ⟨g1, 2, none⟩ = some (.int .i64 ((F x).getD 2 0)) := by have := hwc 2 (by omega); rwa [show 0 + 0 * 8 + 2 = 2 by omega] at this
        have k3 : wr.cell? ⟨g1, 3, none⟩ = some (.int .i64 ((F x).getD 3 0)) := by have := hwc 3 (by omega); rwa [show 0 + 0 * 8 + 3 = 3 by omega] at this
        have k4 : wr.cell? ⟨g1, 4, none⟩ = some (.int .i64 ((F x).getD 4 0)) := by have := hwc 4 (by omega); rwa [show 0 + 0 * 8 + 4 = 4 by omega] at this
        have k5 : wr.cell? ⟨g1, 5, none⟩ = some (.int .i64 ((F x).getD 5 0)) := by have := hwc 5 (by omega); rwa [show 0 + 0 * 8 + 5 = 5 by omega] at this
        have k6 : wr.cell? ⟨g1, 6, none⟩ = some (.int .i64 ((F x).getD 6 0)) := by have := hwc 6 (by omega); rwa [show 0 + 0 * 8 + 6 = 6 by omega] at this
        have k7 : wr.cell? ⟨g1, 7, none⟩ = some (.int .i64 ((F x).getD 7 0)) := by have := hwc 7 (by omega); rwa [show 0 + 0 * 8 + 7 = 7 by omega] at this
        have HCD := Lib.hid (dw_lit (HF8.out x))
        obtain ⟨d0, hd0⟩ : ∃ d, d = (F x).getD 0 0 := ⟨_, rfl⟩
        obtain ⟨d1, hd1⟩ : ∃ d, d = (F x).getD 1 0 := ⟨_, rfl⟩
        obtain ⟨d2, hd2⟩ : ∃ d, d = (F x).getD 2 0 := ⟨_, rfl⟩
        obtain ⟨d3, hd3⟩ : ∃ d, d = (F x).getD 3 0 := ⟨_, rfl⟩
        obtain ⟨d4, hd4⟩ : ∃ d, d = (F x).getD 4 0 := ⟨_, rfl⟩
        obtain ⟨d5, hd5⟩ : ∃ d, d = (F x).getD 5 0 := ⟨_, rfl⟩
        obtain ⟨d6, hd6⟩ : ∃ d, d = (F x).getD 6 0 := ⟨_, rfl⟩
        obtain ⟨d7, hd7⟩ : ∃ d, d = (F x).getD 7 0 := ⟨_, rfl⟩
        rw [← hd0, ← hd1, ← hd2, ← hd3, ← hd4, ← hd5, ← hd6, ← hd7] at HCD
        rw [← hd0] at k0
        rw [← hd1] at k1
        rw [← hd2] at k2
        rw [← hd3] at k3
        rw [← hd4] at k4
        rw [← hd5] at k5
        rw [← hd6] at k6
        rw [← hd7] at k7
        clear hd0 hd1 hd2 hd3 hd4 hd5 hd6 hd7 hwc hx
        have HSL := Lib.hid (show SrcW (wr.alloc (.cells #[.int .i64 d0, .int .i64 d1, .int .i64 d2, .int .i64 d3, .int .i64 d4, .int .i64 d5, .int .i64 d6, .int .i64 d7] 65)) (.slice (some ⟨wr.heap.size, 0, none⟩) 1 1) 1 (fun _ => F x) from .inr ⟨wr.heap.size, 0, 1, rfl, fun j hj i hi => by
          obtain rfl : j = 0 := by omega
          rw [show 0 + 0 * 8 + i = i by omega]
          exact dw_cells (HF8.out x) (by rw [HCD.out]; exact heap_alloc_new wr _) i hi⟩)
        have HWC2 := Lib.hid (show wcs P.length (fun t => F (P.getD t 0)) ++ wcs 1 (fun _ => F x) = wcs (P ++ [x]).length (fun t => F ((P ++ [x]).getD t 0)) by
          rw [List.length_append, List.length_singleton, wcs_succ, wcs_succ, wcs_zero, List.nil_append]
          congr 1
          · exact wcs_congr fun j hj => by rw [List.getD_eq_getElem?_getD, List.getD_eq_getElem?_getD, List.getElem?_append_left hj]
          · rw [List.getD_eq_getElem?_getD, List.getElem?_append_right (Nat.le_refl _), Nat.sub_self]; rfl)
        go_wp2_with (first
          | (at_builtin; refine wpList_appW rfl (.tmp 16) (.tmp 20) rfl w10.heap.size _ _ P.length 1 (fun t => F (P.getD t 0)) (fun _ => F x) rfl rfl (HU.out.alloc _) HSL.out (fun _ => HF8.out x) (by omega) (by have := HB.out.size; simp; omega) ?_; intro v4 w4 hr4 hg4 hb4; have U4 := Lib.hid (show Ww w4 w10.heap.size v4 (P ++ [x]).length (fun t => F ((P ++ [x]).getD t 0)) by unfold Ww; rw [← HWC2.out]; rw [List.length_append, List.length_singleton]; exact hr4); have B4 := Lib.hid ((HB.out.alloc HB.out.size _).trans hb4); clear hr4 hg4 hb4))
        go_roundw
        case rel => exact ⟨k + 1, by omega, by go_num, by rw [HTK.out]; exact U4.out, B4.out⟩
        case measure => simp [intOf]; omega
      · rw [if_neg hn1] at HTK
        have hbn : ((n : Int) == 1) = false := beq_no (by omega)
        go_wp2
        go_roundw
        case rel => exact ⟨k + 1, by omega, by go_num, by rw [HTK.out]; exact HU.out, HB.out⟩
        case measure => simp [intOf]; omega
    · obtain rfl : CS.length = k := by omega
      have HPE := Lib.hid (show P = fixP CS by rw [HP.out, List.take_of_length_le (Nat.le_refl _)])
      have hE0 := Below.keeps_cell HB.out D0.out
      have hE1 := Below.keeps_cell HB.out D1.out
      have HLS := Lib.hid (fun (u : Value) (w' : World) (h : SrcW w' u P.length (fun t => F (P.getD t 0))) => lists_any u P.length V (fun t => F (P.getD t 0)) b w' h (fun j => HFL.out _) hV (by omega))
      go_wp2_with fail
      refine (HLS.out _ _ (HU.out.src (fun j => HF8.out _))).mono ?_
      rintro e w5 ⟨z, vs, rfl, hl5, hb5⟩
      have L5 := Lib.hid hl5
      have B5 := Lib.hid (Below.step HB.out HB.out.size hb5)
      clear hl5 hb5
      go_wp2
      go_ret
      refine ⟨z, vs, rfl, ?_, Below.step B10.out B10.out.size B5.out⟩
      have := L5.out.mono (Nat.le_trans B10.out.size HB.out.size)
      rw [rls_map, HPE.out] at this
      exact this

end Go.Proofs.Ytadjjmlneghklaa

/- from XMR -/
namespace Go.Proofs.Ytadjjmlneghklaa
open Go.RowKit
set_option linter.unusedVariables false
set_option linter.unusedSimpArgs false
set_option maxRecDepth 100000

structure LL3 (w : World) (B : Nat) (v : Value) (vs : List Value) (US : Nat → List Value) (ls : List (List (List Int))) : Prop where
  row : Rg 28 w B v vs
  len : vs.length = ls.length
  at' : ∀ (i : Nat) (u : Value) (l : List (List Int)), vs[i]? = some u → ls[i]? = some l → LLi w B u (US i) l
  apart : ∀ (i j : Nat) (u z : Value), i < j → vs[i]? = some u → vs[j]? = some z → u.ownBlock = none ∨ u.ownBlock ≠ z.ownBlock
  apart2 : ∀ (i j a c : Nat) (x y : Value), i < j → j < vs.length → (US i)[a]? = some x → (US j)[c]? = some y → x.ownBlock = none ∨ x.ownBlock ≠ y.ownBlock

theorem LL3.nil (w : World) (B : Nat) (US : Nat → List Value) : LL3 w B (.slice none 0 0) [] US [] := ⟨Rg.nil _ _ _, rfl, fun i u l h => by simp at h, fun i j u z _ h => by simp at h, fun i j a c x y _ h => by simp at h⟩
theorem LL3.ll {w : World} {B i : Nat} {v u : Value} {vs : List Value} {US : Nat → List Value} {ls : List (List (List Int))} (h : LL3 w B v vs US ls) (hi : vs[i]? = some u) : ∃ l, ls[i]? = some l ∧ LLi w B u (US i) l := by
  obtain ⟨h1, _⟩ := List.getElem?_eq_some_iff.1 hi
  have h2 : i < ls.length := by rw [← h.len]; exact h1
  exact ⟨ls[i], by simp [h2], h.at' i u _ hi (by simp [h2])⟩
theorem LL3.keep {w w' : World} {B : Nat} {v : Value} {vs : List Value} {US : Nat → List Value} {ls : List (List (List Int))} (h : LL3 w B v vs US ls) (hb : Below w.heap.size w w') : LL3 w' B v vs US ls :=
  ⟨h.row.keep hb, h.len, fun i u l hu hl => (h.at' i u l hu hl).keep hb, h.apart, h.apart2⟩
theorem LL3.mono {w : World} {B C : Nat} {v : Value} {vs : List Value} {US : Nat → List Value} {ls : List (List (List Int))} (h : LL3 w B v vs US ls) (hC : C ≤ B) : LL3 w C v vs US ls :=
  ⟨h.row.mono hC, h.len, fun i u l hu hl => (h.at' i u l hu hl).mono hC, h.apart, h.apart2⟩
theorem ll_not_row3 {w : World} {B C : Nat} {v u : Value} {vs us : List Value} {ls : List (List Int)} (h : LLi w B v vs ls) (h2 : Rg 28 w C u us) : (v.ownBlock = none ∨ v.ownBlock ≠ u.ownBlock) ∧ ∀ (i : Nat) (z : Value), vs[i]? = some z → z.ownBlock = none ∨ z.ownBlock ≠ u.ownBlock :=
  ⟨rows_apart (by decide) h.row h2, fun i z hz => by
    obtain ⟨l, hl, hr⟩ := h.rd hz
    exact rows_apart (by decide) (rd_rg hr) h2⟩
theorem LL3.snoc {w w' : World} {B : Nat} {v v' u : Value} {vs us : List Value} {US : Nat → List Value} {ls : List (List (List Int))} {l : List (List Int)} {o : Obj} (h : LL3 w B v vs US ls) (hu : LLi w B u us l)
    (ha : ∀ (i : Nat) (z : Value), vs[i]? = some z → z.ownBlock = none ∨ z.ownBlock ≠ u.ownBlock) (ha2 : ∀ (i a c : Nat) (x y : Value), i < vs.length → (US i)[a]? = some x → us[c]? = some y → x.ownBlock = none ∨ x.ownBlock ≠ y.ownBlock)
    (hr : Rg 28 w' B v' (vs ++ [u])) (hg : (w.alloc o).grownBy w' v.ownBlock) : LL3 w' B v' (vs ++ [u]) (fun i => if i < vs.length then US i else us) (ls ++ [l]) := by
  have hrow := h.row.alloc o
  refine ⟨hr, by simp [h.len], fun i z m hz hm => ?_, fun i j z y hij hz hy => ?_, fun i j a c x y hij hj hx hy => ?_⟩
  · by_cases hi : i < vs.length
    · rw [List.getElem?_append_left hi] at hz
      rw [List.getElem?_append_left (by rw [← h.len]; exact hi)] at hm
      show LLi w' B z (if i < vs.length then US i else us) m
      rw [if_pos hi]
      have h1 := (h.at' i z m hz hm).alloc o
      have h2 := ll_not_row3 h1 hrow
      exact h1.grown hg h2.1 h2.2
    · rw [List.getElem?_append_right (by omega)] at hz
      rw [List.getElem?_append_right (by rw [← h.len]; omega)] at hm
      show LLi w' B z (if i < vs.length then US i else us) m
      rw [if_neg hi]
      by_cases hi0 : i - vs.length = 0
      · rw [hi0] at hz
        rw [← h.len, hi0] at hm
        simp only [List.getElem?_cons_zero, Option.some.injEq] at hz hm
        subst hz; subst hm
        have h1 := hu.alloc o
        have h2 := ll_not_row3 h1 hrow
        exact h1.grown hg h2.1 h2.2
      · rw [List.getElem?_eq_none (by simp; omega)] at hz
        cases hz
  · have hj : j < (vs ++ [u]).length := (List.getElem?_eq_some_iff.1 hy).1
    rw [List.length_append, List.length_singleton] at hj
    rw [List.getElem?_append_left (by omega)] at hz
    by_cases hj2 : j < vs.length
    · rw [List.getElem?_append_left hj2] at hy
      exact h.apart i j z y hij hz hy
    · obtain rfl : j = vs.length := by omega
      rw [List.getElem?_append_right (Nat.le_refl _), Nat.sub_self] at hy
      simp only [List.getElem?_cons_zero, Option.some.injEq] at hy
      subst hy
      exact ha i z hz
  · rw [List.length_append, List.length_singleton] at hj
    have hi : i < vs.length := by omega
    simp only [if_pos hi] at hx
    by_cases hj2 : j < vs.length
    · simp only [if_pos hj2] at hy
      exact h.apart2 i j a c x y hij hj2 hx hy
    · simp only [if_neg hj2] at hy
      exact ha2 i a c x y hi hx hy
theorem infoL3 : (Try.prog.info? 28).map (fun i => (i.zero, i.size, i.bytes)) = some (some (.slice none 0 0), 1, 24) := by kernel_rfl

/-- All blocks lie below C. -/
def Und3 (C : Nat) (vs : List Value) (US : Nat → List Value) : Prop := ∀ (i : Nat) (u : Value), vs[i]? = some u → Und C u (US i)
theorem LL3.und {w : World} {B : Nat} {v : Value} {vs : List Value} {US : Nat → List Value} {ls : List (List (List Int))} (h : LL3 w B v vs US ls) : Und3 w.heap.size vs US := fun i u hu => by
  obtain ⟨l, _, h1⟩ := h.ll hu
  exact h1.und
theorem Und3.far {w : World} {D : Nat} {u : Value} {vs us : List Value} {US : Nat → List Value} {l : List (List Int)} (hd : Und3 D vs US) (hu : LLi w D u us l) : (∀ (i : Nat) (z : Value), vs[i]? = some z → z.ownBlock = none ∨ z.ownBlock ≠ u.ownBlock) ∧
    ∀ (i a c : Nat) (x y : Value), i < vs.length → (US i)[a]? = some x → us[c]? = some y → x.ownBlock = none ∨ x.ownBlock ≠ y.ownBlock := by
  refine ⟨fun i z hz => ?_, fun i a c x y hi hx hy => ?_⟩
  · cases hq : z.ownBlock with
    | none => exact .inl rfl
    | some k =>
      right
      intro e
      have h1 := (hd i z hz).1 k hq
      have h2 := (hu.row.lt k e.symm).1
      omega
  · cases hq : x.ownBlock with
    | none => exact .inl rfl
    | some k =>
      right
      intro e
      have h1 := (hd i vs[i] (by simp [hi])).2 a x hx k hq
      obtain ⟨m, _, h3⟩ := hu.rd hy
      have h2 := (h3.lt k e.symm).1
      omega

end Go.Proofs.Ytadjjmlneghklaa

/- from XMS -/
namespace Go.Proofs.Ytadjjmlneghklaa
open Go.RowKit
set_option linter.unusedVariables false
set_option linter.unusedSimpArgs false
set_option maxRecDepth 100000

set_option maxHeartbeats 2000000 in
theorem allCycles_any (V M : Nat) (w : World) (hV : V ≤ 8) (hV1 : 1 ≤ V) (hM1 : 1 ≤ M) (hM : M ≤ 15) :
    Calls Try.prog 27 #[shp (V : Int) (bA M)] w fun e w' => ∃ u vs US, e = .returned u ∧ LL3 w' w.heap.size u vs US ((cycs (fA V M) (nA V M)).map (fun c => c.map (wA V M))) ∧ Below w.heap.size w w' := by
  have HSC := Lib.hid (fun w' => shapeCycles_any V M w' hV hV1 hM1 hM)
  obtain ⟨b, hb⟩ : ∃ b, b = bA M := ⟨_, rfl⟩
  obtain ⟨F, hF⟩ : ∃ F, F = wA V M := ⟨_, rfl⟩
  have HF8 := Lib.hid (show ∀ j, (F j).length ≤ 8 from fun j => by rw [hF, wA_len]; exact hV)
  have HFL := Lib.hid (show ∀ j, (F j).length = V from fun j => by rw [hF, wA_len])
  obtain ⟨CS, hCS⟩ : ∃ CS, CS = cycs (fA V M) (nA V M) := ⟨_, rfl⟩
  have hcn : CS.length ≤ 3876 := by
    have h1 := cycsTo_len (fA V M) (nA V M) (nA V M)
    have h2 := nA_bd hV hM
    rw [hCS]; unfold cycs; omega
  have HCM := Lib.hid (show ∀ (k : Nat) (l : List Nat), CS[k]? = some l → l.length ≤ 3876 from fun k l hl => by
    have hm := List.mem_of_getElem? hl
    rw [hCS] at hm
    unfold cycs cycsTo at hm
    rw [List.mem_map] at hm
    obtain ⟨m, hm1, rfl⟩ := hm
    rw [List.mem_filter] at hm1
    have hc := ((lead_iff (fA_into (V := V) hM1)).1 hm1.2).1
    have h2 := (per_spec (fA_into (V := V) hM1) hc).2.1
    have h3 := nA_bd hV hM
    rw [rnd_len]; omega)
  rw [← hb, ← hF, ← hCS] at HSC
  rw [← hb, ← hF, ← hCS]
  obtain ⟨w1, hw1⟩ : ∃ w1, w1 = w.alloc (.cells #[.int .i64 (V : Int), .int .i64 b] 45) := ⟨_, rfl⟩
  have HB1 := Lib.hid (show Below w.heap.size w w1 by rw [hw1]; exact alloc_below w _)
  have c0 : w1.cell? ⟨w.heap.size, 0, none⟩ = some (.int .i64 (V : Int)) := by rw [hw1]; simp [go_sem]
  have c1 : w1.cell? ⟨w.heap.size, 1, none⟩ = some (.int .i64 b) := by rw [hw1]; simp [go_sem]
  have C0 := Lib.hid c0
  have C1 := Lib.hid c1
  clear hb hF hCS c0 c1
  go_enter Try.func27, Try.ntmps27
  go_wp2_with fail
  rw [← hw1]
  refine (HSC.out _).mono ?_
  rintro e w10 ⟨uc, vc, rfl, hlc, hb10⟩
  obtain ⟨ac, cc, rfl⟩ := hlc.row.lenR hlc.len
  have LC := Lib.hid hlc
  have HVC := Lib.hid hlc.len
  have B10 := Lib.hid (Below.step HB1.out HB1.out.size hb10)
  have D0 := Lib.hid (Below.keeps_cell hb10 C0.out)
  have D1 := Lib.hid (Below.keeps_cell hb10 C1.out)
  clear hlc hb10 hw1
  go_wp2
  go_loopw [3, 9] (fun o i wr => ∃ (k : Nat) (vs : List Value) (US : Nat → List Value), k ≤ CS.length ∧ i = .int .i64 (k : Int) ∧ LL3 wr w10.heap.size o vs US ((CS.take k).map (fun c => c.map F)) ∧ Below w10.heap.size w10 wr) (fun _ i _ => CS.length - (intOf i).toNat)
  case atStart => exact ⟨0, [], fun _ => [], Nat.zero_le _, rfl, LL3.nil _ _ _, Below.refl _ _⟩
  case round =>
    obtain ⟨k, vs, US, hk, rfl, hu, hbl⟩ := hrel
    have HB := Lib.hid hbl
    have HU := Lib.hid hu
    have HVK := Lib.hid (show vs.length = k by rw [hu.len, List.length_map, List.length_take]; omega)
    obtain ⟨a3, c3, rfl⟩ := hu.row.lenR HVK.out
    have hE0 := Below.keeps_cell HB.out D0.out
    have hE1 := Below.keeps_cell HB.out D1.out
    clear hu hbl
    by_cases hlt : k < CS.length
    · obtain ⟨z, hz⟩ : ∃ z, vc[k]? = some z := ⟨vc[k]'(by rw [HVC.out]; exact hlt), by simp⟩
      obtain ⟨gc, rfl⟩ : ∃ gc, ac = some ⟨gc, 0, none⟩ := by
        rcases LC.out.row.cases with ⟨he, h0⟩ | ⟨g0, c0, he⟩
        · simp only [Value.slice.injEq] at he; omega
        · simp only [Value.slice.injEq] at he; exact ⟨g0, he.1⟩
      have hcell : wr.cell? ⟨gc, k, none⟩ = some z := Below.keeps_cell HB.out (by
        have h1 := LC.out.row.at.2.2.2.2.2.1 k (by rw [HVC.out]; exact hlt)
        rw [h1, ← hz]; simp [HVC.out, hlt])
      obtain ⟨cl, hcl⟩ : ∃ cl, CS[k]? = some cl := ⟨CS[k], by simp [hlt]⟩
      have hrz := (LC.out.at' k z cl hz hcl).keep HB.out
      have HRZ := Lib.hid hrz
      have hcb : cl.length ≤ 3876 := HCM.out k cl hcl
      have HTK := Lib.hid (show (CS.take (k + 1)).map (fun c => c.map F) = (CS.take k).map (fun c => c.map F) ++ [cl.map F] by rw [List.take_add_one, hcl, List.map_append]; rfl)
      obtain ⟨a1, c1, rfl⟩ := hrz.lenOf
      obtain ⟨n, hn⟩ : ∃ n, n = cl.length := ⟨_, rfl⟩
      have HLS := Lib.hid (fun (u : Value) (w' : World) (h : SrcW w' u cl.length (fun t => F (cl.getD t 0))) => lists_any u cl.length V (fun t => F (cl.getD t 0)) b w' h (fun j => HFL.out _) hV (by omega))
      rw [← hn] at HRZ hcell HLS
      have HNL := Lib.hid hn
      have HRM := Lib.hid (show rls (fun t => F (cl.getD t 0)) n = cl.map F by rw [hn]; exact rls_map F cl)
      clear hz hrz hcl hn
      go_wp2_with fail
      refine (HLS.out _ _ (HRZ.out.src (fun j => HF8.out _))).mono ?_
      rintro e w5 ⟨zz, vz, rfl, hl5, hb5⟩
      rw [HRM.out] at hl5
      obtain ⟨az, cz, rfl⟩ := hl5.row.lenR (show vz.length = n by rw [hl5.len, List.length_map, HNL.out])
      have HFR := Lib.hid (Und3.far HU.out.und hl5)
      have L5 := Lib.hid (hl5.mono HB.out.size)
      have B5 := Lib.hid (Below.step HB.out HB.out.size hb5)
      have U5 := Lib.hid (HU.out.keep hb5)
      clear hl5 hb5
      go_wp2_with (at_builtin; refine wpList_appG rfl (.tmp 13) (.tmp 17) _ 28 (.slice none 0 0) 24 Try.underlying22 infoL3 (by omega) rfl rfl w10.heap.size w10.heap.size _ _ vs _ rfl rfl (U5.out.row.alloc _) (Rg.lit _ _ _ _ B5.out.size) (by simp [Value.oneCell']) (by rw [HVK.out]; simp; omega) (by have := B5.out.size; simp; omega) ?_; intro v3 w3 hr3 hg3 hb3; have N3 := Lib.hid (U5.out.snoc L5.out HFR.out.1 HFR.out.2 hr3 hg3); have B3 := Lib.hid ((B5.out.alloc B5.out.size _).trans hb3); clear hr3 hg3 hb3)
      go_roundw
      case rel => exact ⟨k + 1, _, _, by omega, by go_num, by rw [HTK.out]; exact N3.out, B3.out⟩
      case measure => simp [intOf]; omega
    · obtain rfl : CS.length = k := by omega
      go_wp2
      go_ret
      refine ⟨.slice a3 CS.length c3, vs, US, rfl, ?_, Below.step B10.out B10.out.size HB.out⟩
      have := HU.out.mono B10.out.size
      rw [List.take_of_length_le (Nat.le_refl _)] at this
      exact this

end Go.Proofs.Ytadjjmlneghklaa

/- from XMU -/
namespace Go.Proofs.Ytadjjmlneghklaa
open Go.RowKit
set_option linter.unusedVariables false
set_option linter.unusedSimpArgs false
set_option maxRecDepth 100000

abbrev OK_FixedWords (W b : Int) : Bool := okS W b
def LF_FixedWords (W b : Int) : List (List Int) := if okS W b = true then (fixP (cycs (fA W.toNat (b.toNat - 1)) (nA W.toNat (b.toNat - 1)))).map (wA W.toNat (b.toNat - 1)) else []
abbrev OK_AllCycles (W b : Int) : Bool := okS W b
def LF_AllCycles (W b : Int) : List (List (List Int)) := if okS W b = true then (cycs (fA W.toNat (b.toNat - 1)) (nA W.toNat (b.toNat - 1))).map (fun c => c.map (wA W.toNat (b.toNat - 1))) else []

theorem impl_FixedWords (W b : Int) (w : World) :
    Calls Try.prog 13 #[.int .i64 W, .int .i64 b] w fun e w' => ∃ u vs, e = .returned (.tuple #[u, .bool (OK_FixedWords W b)]) ∧ LLi w' w.heap.size u vs (LF_FixedWords W b) ∧ Below w.heap.size w w' := by
  have HASK := Lib.hid (show ∀ w' : World, Calls Try.prog 28 #[.int .i64 W, .int .i64 b, .func (Fn.func 29) #[] #[]] w' fun e w'' => ∃ u vs, e = .returned (.tuple #[u, .bool (OK_FixedWords W b)]) ∧ LLi w'' w'.heap.size u vs (LF_FixedWords W b) ∧ Below w'.heap.size w' w'' from fun w' => by
    have HAL := Lib.hid (alloc_below w' (.cells #[.int .i64 W, .int .i64 b] 45))
    have HC0 := Lib.hid (show (w'.alloc (.cells #[.int .i64 W, .int .i64 b] 45)).cell? ⟨w'.heap.size, 0, none⟩ = some (.int .i64 W) by simp [go_sem])
    have HC1 := Lib.hid (show (w'.alloc (.cells #[.int .i64 W, .int .i64 b] 45)).cell? ⟨w'.heap.size, 1, none⟩ = some (.int .i64 b) by simp [go_sem])
    have HV := Lib.hid (show LF_FixedWords W b = (if okS W b = true then (fixP (cycs (fA W.toNat (b.toNat - 1)) (nA W.toNat (b.toNat - 1)))).map (wA W.toNat (b.toNat - 1)) else []) from rfl)
    rw [HV.out, OK_FixedWords]
    by_cases hS : okS W b = true
    · rw [hS, if_pos rfl]
      obtain ⟨V, M, rfl, rfl, h1, h2, h3, h4⟩ := okS_nat hS
      have HF := Lib.hid (fun w' => fixedWords_any V M w' h2 h1 h3 h4)
      rw [show (V : Int).toNat = V by omega, show (((M + 1 : Nat) : Int)).toNat - 1 = M by omega]
      obtain ⟨KK, hKK⟩ : ∃ KK, KK = (fixP (cycs (fA V M) (nA V M))).map (wA V M) := ⟨_, rfl⟩
      rw [← hKK] at HF
      rw [← hKK]
      clear hKK
      change Hid (∀ w', Calls _ _ #[shp (V : Int) ((M + 1 : Nat) : Int)] w' _) at HF
      obtain ⟨b, hb⟩ : ∃ b : Int, b = ((M + 1 : Nat) : Int) := ⟨_, rfl⟩
      rw [← hb] at hS HF HAL HC0 HC1
      rw [← hb]
      clear hb
      go_enter Try.func28, Try.ntmps28
      go_wp2_with fail
      refine (isValid_any _ _ _).mono ?_
      rw [hS]
      rintro e w1 ⟨rfl, hb1⟩
      have B1 := Lib.hid (Below.step HAL.out HAL.out.size hb1)
      have c0 := Below.keeps_cell hb1 HC0.out
      have c1 := Below.keeps_cell hb1 HC1.out
      clear hb1
      go_wp2_with fail
      refine (HF.out _).mono ?_
      rintro e w2 ⟨u2, vs2, rfl, hr2, hb2⟩
      have R2 := Lib.hid (hr2.mono B1.out.size)
      have B2 := Lib.hid (Below.step B1.out B1.out.size hb2)
      clear hr2 hb2
      go_wp2
      go_ret2
      exact ⟨u2, vs2, rfl, R2.out, B2.out⟩
    · have hS' : okS W b = false := by simpa using hS
      rw [hS', if_neg (by simp)]
      clear hS
      go_enter Try.func28, Try.ntmps28
      go_wp2_with fail
      refine (isValid_any _ _ _).mono ?_
      rw [hS']
      rintro e w1 ⟨rfl, hb1⟩
      have B1 := Lib.hid (Below.step HAL.out HAL.out.size hb1)
      clear hb1
      go_wp2
      go_ret2
      exact ⟨_, [], rfl, LLi.nil _ _, B1.out⟩)
  go_enter Try.func13, Try.ntmps13
  go_wp2_with fail
  refine (HASK.out _).mono ?_
  rintro e w1 ⟨u, vs, rfl, hr, hb1⟩
  have R1 := Lib.hid hr
  have B1 := Lib.hid hb1
  clear hr hb1
  go_wp2
  go_ret2
  exact ⟨u, vs, rfl, R1.out, B1.out⟩

theorem impl_AllCycles (W b : Int) (w : World) :
    Calls Try.prog 8 #[.int .i64 W, .int .i64 b] w fun e w' => ∃ u vs US, e = .returned (.tuple #[u, .bool (OK_AllCycles W b)]) ∧ LL3 w' w.heap.size u vs US (LF_AllCycles W b) ∧ Below w.heap.size w w' := by
  have HASK := Lib.hid (show ∀ w' : World, Calls Try.prog 26 #[.int .i64 W, .int .i64 b, .func (Fn.func 27) #[] #[]] w' fun e w'' => ∃ u vs US, e = .returned (.tuple #[u, .bool (OK_AllCycles W b)]) ∧ LL3 w'' w'.heap.size u vs US (LF_AllCycles W b) ∧ Below w'.heap.size w' w'' from fun w' => by
    have HAL := Lib.hid (alloc_below w' (.cells #[.int .i64 W, .int .i64 b] 45))
    have HC0 := Lib.hid (show (w'.alloc (.cells #[.int .i64 W, .int .i64 b] 45)).cell? ⟨w'.heap.size, 0, none⟩ = some (.int .i64 W) by simp [go_sem])
    have HC1 := Lib.hid (show (w'.alloc (.cells #[.int .i64 W, .int .i64 b] 45)).cell? ⟨w'.heap.size, 1, none⟩ = some (.int .i64 b) by simp [go_sem])
    have HV := Lib.hid (show LF_AllCycles W b = (if okS W b = true then (cycs (fA W.toNat (b.toNat - 1)) (nA W.toNat (b.toNat - 1))).map (fun c => c.map (wA W.toNat (b.toNat - 1))) else []) from rfl)
    rw [HV.out, OK_AllCycles]
    by_cases hS : okS W b = true
    · rw [hS, if_pos rfl]
      obtain ⟨V, M, rfl, rfl, h1, h2, h3, h4⟩ := okS_nat hS
      have HF := Lib.hid (fun w' => allCycles_any V M w' h2 h1 h3 h4)
      rw [show (V : Int).toNat = V by omega, show (((M + 1 : Nat) : Int)).toNat - 1 = M by omega]
      obtain ⟨KK, hKK⟩ : ∃ KK, KK = (cycs (fA V M) (nA V M)).map (fun c => c.map (wA V M)) := ⟨_, rfl⟩
      rw [← hKK] at HF
      rw [← hKK]
      clear hKK
      change Hid (∀ w', Calls _ _ #[shp (V : Int) ((M + 1 : Nat) : Int)] w' _) at HF
      obtain ⟨b, hb⟩ : ∃ b : Int, b = ((M + 1 : Nat) : Int) := ⟨_, rfl⟩
      rw [← hb] at hS HF HAL HC0 HC1
      rw [← hb]
      clear hb
      go_enter Try.func26, Try.ntmps26
      go_wp2_with fail
      refine (isValid_any _ _ _).mono ?_
      rw [hS]
      rintro e w1 ⟨rfl, hb1⟩
      have B1 := Lib.hid (Below.step HAL.out HAL.out.size hb1)
      have c0 := Below.keeps_cell hb1 HC0.out
      have c1 := Below.keeps_cell hb1 HC1.out
      clear hb1
      go_wp2_with fail
      refine (HF.out _).mono ?_
      rintro e w2 ⟨u2, vs2, US2, rfl, hr2, hb2⟩
      have R2 := Lib.hid (hr2.mono B1.out.size)
      have B2 := Lib.hid (Below.step B1.out B1.out.size hb2)
      clear hr2 hb2
      go_wp2
      go_ret2
      exact ⟨u2, vs2, US2, rfl, R2.out, B2.out⟩
    · have hS' : okS W b = false := by simpa using hS
      rw [hS', if_neg (by simp)]
      clear hS
      go_enter Try.func26, Try.ntmps26
      go_wp2_with fail
      refine (isValid_any _ _ _).mono ?_
      rw [hS']
      rintro e w1 ⟨rfl, hb1⟩
      have B1 := Lib.hid (Below.step HAL.out HAL.out.size hb1)
      clear hb1
      go_wp2
      go_ret2
      exact ⟨_, [], fun _ => [], rfl, LL3.nil _ _ _, B1.out⟩)
  go_enter Try.func8, Try.ntmps8
  go_wp2_with fail
  refine (HASK.out _).mono ?_
  rintro e w1 ⟨u, vs, US, rfl, hr, hb1⟩
  have R1 := Lib.hid hr
  have B1 := Lib.hid hb1
  clear hr hb1
  go_wp2
  go_ret2
  exact ⟨u, vs, US, rfl, R1.out, B1.out⟩

end Go.Proofs.Ytadjjmlneghklaa

/- from XMQ -/
namespace Go.Proofs.Ytadjjmlneghklaa
set_option linter.unusedVariables false
set_option linter.unusedSimpArgs false
set_option maxRecDepth 100000

/-- The first numbers of the cycles found so far. -/
def ld (f : Nat → Nat) (n : Nat) (s : Nat → Nat) : List Nat := (List.range n).filter fun m => lead f n m && decide (s m ≠ 0)
theorem ld_zero (f : Nat → Nat) (n : Nat) : ld f n (fun _ => 0) = [] := by
  unfold ld
  rw [List.filter_eq_nil_iff]
  intro m _
  simp
theorem ld_congr {f : Nat → Nat} {n : Nat} {s t : Nat → Nat} (h : ∀ m, lead f n m = true → ((t m ≠ 0) ↔ s m ≠ 0)) : ld f n t = ld f n s := by
  unfold ld
  refine List.filter_congr fun m _ => ?_
  cases hl : lead f n m
  · rfl
  · rw [Bool.true_and, Bool.true_and, decide_eq_decide]; exact h m hl
theorem ld_len (f : Nat → Nat) (n : Nat) (s : Nat → Nat) : (ld f n s).length ≤ n := by
  unfold ld
  have := List.length_filter_le (fun m => lead f n m && decide (s m ≠ 0)) (List.range n)
  rw [List.length_range] at this
  exact this

theorem put_split (P Q : Nat → Bool) (m : Nat) (hP : P m = false) (hQ : Q m = true) (he : ∀ x, x ≠ m → Q x = P x) : ∀ d, ∃ l2 : List Nat, (List.range (m + 1 + d)).filter P = (List.range m).filter P ++ l2 ∧ (List.range (m + 1 + d)).filter Q = (List.range m).filter P ++ m :: l2 ∧ ∀ z ∈ l2, m < z
  | 0 => ⟨[], by rw [Nat.add_zero, List.range_succ, List.filter_append]; simp [hP], by
      rw [Nat.add_zero, List.range_succ, List.filter_append]
      have : (List.range m).filter Q = (List.range m).filter P := List.filter_congr fun x hx => he x (by rw [List.mem_range] at hx; omega)
      rw [this]; simp [hQ], by simp⟩
  | d + 1 => by
    obtain ⟨l2, h1, h2, h3⟩ := put_split P Q m hP hQ he d
    have hq := he (m + 1 + d) (by omega)
    rw [← Nat.add_assoc, List.range_succ, List.filter_append, List.filter_append, h1, h2]
    by_cases hp : P (m + 1 + d) = true
    · refine ⟨l2 ++ [m + 1 + d], ?_, ?_, ?_⟩
      · simp [hp]
      · rw [hp] at hq; simp [hq]
      · intro z hz
        rw [List.mem_append, List.mem_singleton] at hz
        rcases hz with hz | rfl
        · exact h3 z hz
        · omega
    · have hp' : P (m + 1 + d) = false := by simpa using hp
      rw [hp'] at hq
      exact ⟨l2, by simp [hp'], by simp [hq], h3⟩

/-- A new cycle's place. -/
theorem ld_put {f : Nat → Nat} {n : Nat} {s t : Nat → Nat} {m0 : Nat} (hm : m0 < n) (hl : lead f n m0 = true) (hz : s m0 = 0) (h : ∀ m, lead f n m = true → ((t m ≠ 0) ↔ s m ≠ 0 ∨ m = m0)) :
    ∃ i, i ≤ (ld f n s).length ∧ ld f n t = (ld f n s).take i ++ [m0] ++ (ld f n s).drop i ∧ (∀ j (hj : j < (ld f n s).length), j < i → (ld f n s)[j] < m0) ∧ ∀ (hj : i < (ld f n s).length), m0 < (ld f n s)[i] := by
  obtain ⟨d, hd⟩ : ∃ d, n = m0 + 1 + d := ⟨n - (m0 + 1), by omega⟩
  obtain ⟨l2, h1, h2, h3⟩ := put_split (fun m => lead f n m && decide (s m ≠ 0)) (fun m => lead f n m && decide (t m ≠ 0)) m0 (by simp [hz]) (by
      rw [hl, Bool.true_and]; exact decide_eq_true ((h m0 hl).2 (.inr rfl))) (fun x hx => by
      cases hlx : lead f n x
      · rfl
      · rw [Bool.true_and, Bool.true_and, decide_eq_decide]
        exact (h x hlx).trans ⟨fun hh => hh.elim id (fun e => absurd e hx), .inl⟩) d
  rw [← hd] at h1 h2
  have e1 : ld f n s = ((List.range m0).filter fun m => lead f n m && decide (s m ≠ 0)) ++ l2 := h1
  have e2 : ld f n t = ((List.range m0).filter fun m => lead f n m && decide (s m ≠ 0)) ++ m0 :: l2 := h2
  obtain ⟨l1, hl1⟩ : ∃ l1, l1 = (List.range m0).filter fun m => lead f n m && decide (s m ≠ 0) := ⟨_, rfl⟩
  rw [← hl1] at e1 e2
  have hlt : ∀ z ∈ l1, z < m0 := fun z hzz => by rw [hl1, List.mem_filter, List.mem_range] at hzz; exact hzz.1
  rw [e1, e2]
  refine ⟨l1.length, by simp, by simp, fun j hj hj2 => ?_, fun hj => ?_⟩
  · rw [List.getElem_append_left hj2]
    exact hlt _ (List.getElem_mem hj2)
  · rw [List.getElem_append_right (Nat.le_refl _)]
    exact h3 _ (List.getElem_mem _)


open Classical in
/-- 1 at the least numbers of the cycles to which runs from below k come. -/
noncomputable def sk (f : Nat → Nat) (n k m : Nat) : Nat := if ∃ x, x < k ∧ Lo f n x m then 1 else 0
theorem sk_iff {f : Nat → Nat} {n k m : Nat} : sk f n k m ≠ 0 ↔ ∃ x, x < k ∧ Lo f n x m := by
  unfold sk
  by_cases h : ∃ x, x < k ∧ Lo f n x m
  · rw [if_pos h]; simp [h]
  · rw [if_neg h]; simp [h]
theorem sk_step {f : Nat → Nat} {n k m0 : Nat} (hi : Into f n) (h0 : Lo f n k m0) (m : Nat) : sk f n (k + 1) m ≠ 0 ↔ sk f n k m ≠ 0 ∨ m = m0 := by
  rw [sk_iff, sk_iff]
  constructor
  · rintro ⟨x, hx, hl⟩
    by_cases e : x = k
    · subst e; exact .inr (hl.uniq hi h0)
    · exact .inl ⟨x, by omega, hl⟩
  · rintro (⟨x, hx, hl⟩ | rfl)
    · exact ⟨x, by omega, hl⟩
    · exact ⟨k, by omega, h0⟩
theorem ld_start (f : Nat → Nat) (n : Nat) : ld f n (sk f n 0) = [] := by
  unfold ld
  rw [List.filter_eq_nil_iff]
  intro m _
  have : sk f n 0 m = 0 := by
    refine Classical.byContradiction fun h => ?_
    obtain ⟨x, hx, _⟩ := sk_iff.1 h
    omega
  simp [this]
theorem ld_old {f : Nat → Nat} {n k m0 : Nat} (hi : Into f n) (h0 : Lo f n k m0) (hs : sk f n k m0 ≠ 0) : ld f n (sk f n (k + 1)) = ld f n (sk f n k) :=
  ld_congr fun m _ => (sk_step hi h0 m).trans ⟨fun h => h.elim id (fun e => by rw [e]; exact hs), .inl⟩
theorem ld_new {f : Nat → Nat} {n k m0 : Nat} (hi : Into f n) (h0 : Lo f n k m0) (hs : sk f n k m0 = 0) :
    ∃ i, i ≤ (ld f n (sk f n k)).length ∧ ld f n (sk f n (k + 1)) = (ld f n (sk f n k)).take i ++ [m0] ++ (ld f n (sk f n k)).drop i ∧ (∀ j (hj : j < (ld f n (sk f n k)).length), j < i → (ld f n (sk f n k))[j] < m0) ∧ ∀ (hj : i < (ld f n (sk f n k)).length), m0 < (ld f n (sk f n k))[i] :=
  ld_put (cyc_lt hi ((lead_iff hi).1 h0.1).1) h0.1 hs fun m _ => sk_step hi h0 m
theorem ld_end {f : Nat → Nat} {n : Nat} : (ld f n (sk f n n)).map (rnd f n) = cycs f n := by
  unfold cycs cycsTo ld
  congr 1
  refine List.filter_congr fun m hm => ?_
  rw [List.mem_range] at hm
  cases hl : lead f n m
  · rfl
  · have : sk f n n m ≠ 0 := sk_iff.2 ⟨m, hm, Lo.self hl⟩
    simp [this]
theorem ld_mem {f : Nat → Nat} {n m : Nat} {s : Nat → Nat} (h : m ∈ ld f n s) : m < n ∧ lead f n m = true ∧ s m ≠ 0 := by
  unfold ld at h
  rw [List.mem_filter, List.mem_range, Bool.and_eq_true, decide_eq_true_eq] at h
  exact ⟨h.1, h.2.1, h.2.2⟩
theorem mem_ld {f : Nat → Nat} {n m : Nat} {s : Nat → Nat} (h1 : m < n) (h2 : lead f n m = true) (h3 : s m ≠ 0) : m ∈ ld f n s := by
  unfold ld
  rw [List.mem_filter, List.mem_range, Bool.and_eq_true, decide_eq_true_eq]
  exact ⟨h1, h2, h3⟩

end Go.Proofs.Ytadjjmlneghklaa

/- from XMT -/
namespace Go.Proofs.Ytadjjmlneghklaa
open Go.RowKit
set_option linter.unusedVariables false
set_option linter.unusedSimpArgs false
set_option maxRecDepth 100000

structure LLx (w : World) (B : Nat) (v : Value) (vs : List Value) (ls : List (List (List Int))) : Prop where
  row : Rg 28 w B v vs
  len : vs.length = ls.length
  at' : ∀ (i : Nat) (u : Value) (l : List (List Int)), vs[i]? = some u → ls[i]? = some l → ∃ us, LLi w B u us l

theorem LLx.nil (w : World) (B : Nat) : LLx w B (.slice none 0 0) [] [] := ⟨Rg.nil _ _ _, rfl, fun i u l h => by simp at h⟩
theorem LLx.ll {w : World} {B i : Nat} {v u : Value} {vs : List Value} {ls : List (List (List Int))} (h : LLx w B v vs ls) (hi : vs[i]? = some u) : ∃ l us, ls[i]? = some l ∧ LLi w B u us l := by
  obtain ⟨h1, _⟩ := List.getElem?_eq_some_iff.1 hi
  have h2 : i < ls.length := by rw [← h.len]; exact h1
  obtain ⟨us, hu⟩ := h.at' i u _ hi (show ls[i]? = some ls[i] by simp [h2])
  exact ⟨ls[i], us, by simp [h2], hu⟩
theorem LLx.keep {w w' : World} {B : Nat} {v : Value} {vs : List Value} {ls : List (List (List Int))} (h : LLx w B v vs ls) (hb : Below w.heap.size w w') : LLx w' B v vs ls :=
  ⟨h.row.keep hb, h.len, fun i u l hu hl => (h.at' i u l hu hl).elim fun us hx => ⟨us, hx.keep hb⟩⟩
theorem LLx.mono {w : World} {B C : Nat} {v : Value} {vs : List Value} {ls : List (List (List Int))} (h : LLx w B v vs ls) (hC : C ≤ B) : LLx w C v vs ls :=
  ⟨h.row.mono hC, h.len, fun i u l hu hl => (h.at' i u l hu hl).elim fun us hx => ⟨us, hx.mono hC⟩⟩
theorem LLx.ins {w w' : World} {B i : Nat} {v v' u : Value} {vs us : List Value} {ls : List (List (List Int))} {l : List (List Int)} (h : LLx w B v vs ls) (hil : i ≤ vs.length) (hu : LLi w B u us l)
    (hb : Below w.heap.size w w') (hr : Rg 28 w' B v' (vs.take i ++ [u] ++ vs.drop i)) : LLx w' B v' (vs.take i ++ [u] ++ vs.drop i) (ls.take i ++ [l] ++ ls.drop i) := by
  have hll := h.len
  refine ⟨hr, by simp; omega, fun j z m hz hm => ?_⟩
  rw [ins_get vs u i hil] at hz
  rw [ins_get ls l i (by omega)] at hm
  by_cases h1 : j < i
  · rw [if_pos h1] at hz hm; exact (h.at' j z m hz hm).elim fun us hx => ⟨us, hx.keep hb⟩
  · rw [if_neg h1] at hz hm
    by_cases h2 : j = i
    · rw [if_pos h2] at hz hm
      cases hz; cases hm
      exact ⟨us, hu.keep hb⟩
    · rw [if_neg h2] at hz hm; exact (h.at' _ z m hz hm).elim fun us hx => ⟨us, hx.keep hb⟩

end Go.Proofs.Ytadjjmlneghklaa
