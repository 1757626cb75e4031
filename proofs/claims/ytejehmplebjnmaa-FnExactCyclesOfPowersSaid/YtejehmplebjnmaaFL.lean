/-
  The model's cycles of powers, walked.
-/
import Derived.Test.YtejehmplebjnmaaFK
import Derived.Test.YtejehmplebjnmaaVA
import Derived.BigQuiet
namespace Go.Proofs.Ytejehmplebjnmaa
open Go.RowKit
set_option linter.unusedVariables false
set_option linter.unusedSimpArgs false
set_option maxRecDepth 100000

def isZ : Option Value → Bool
  | some (.int _ q) => q == 0
  | _ => false

theorem lst_rep (n : Nat) : List.replicate n (0 : Int) = lst n (fun _ => 0) := by
  unfold lst
  apply List.ext_getElem?
  intro j
  by_cases hj : j < n
  · simp [hj]
  · rw [List.getElem?_eq_none (by simp; omega), List.getElem?_eq_none (by simp; omega)]

theorem lst_mark {n : Nat} (s : Nat → Nat) {y q : Nat} (hy : y < n) : (lst n s).set y ((q : Nat) : Int) = lst n (fun z => if z = y then q else s z) := by
  unfold lst
  apply List.ext_getElem?
  intro j
  by_cases hj : j < n
  · by_cases e : y = j
    · subst e; simp [List.getElem?_set, hy]
    · have e' : ¬ j = y := fun h => e h.symm
      simp [List.getElem?_set, hj, e, e']
  · rw [List.getElem?_eq_none (by simp; omega), List.getElem?_eq_none (by simp; omega)]

/-- Missing marks, counted in the memory. -/
theorem zs_mem {w : World} {B g k c n : Nat} {s : Nat → Nat} (h : Rd w B (.slice (some ⟨g, 0, none⟩) k c) (lst n s)) : cnt n (fun y => isZ (w.cell? ⟨g, y, none⟩)) = zs n s := by
  refine cnt_congr fun y hy => ?_
  rw [h.at.2.2.2.2.1 y (by rw [lst_len]; exact hy), lst_at]
  show (((s y : Nat) : Int) == 0) = (s y == 0)
  rw [Bool.eq_iff_iff, beq_iff_eq, beq_iff_eq]
  omega

theorem srcG_take {w : World} {e : TypeId} {B g n cap : Nat} {vs : List Value} (h : Rg e w B (.slice (some ⟨g, 0, none⟩) n cap) vs) (q c : Nat) (hq : q ≤ vs.length) : SrcG w (.slice (some ⟨g, 0, none⟩) q c) (vs.take q) := by
  refine .inr ⟨⟨g, 0, none⟩, c, by rw [List.length_take, Nat.min_eq_left hq], fun j hj => ?_⟩
  have hj' : j < q := by rw [List.length_take] at hj; omega
  rw [addr_addV, Nat.zero_add, h.at.2.2.2.2.2.1 j (by omega)]
  simp
theorem srcG_drop {w : World} {e : TypeId} {B g n cap : Nat} {vs : List Value} (h : Rg e w B (.slice (some ⟨g, 0, none⟩) n cap) vs) (q c o m : Nat) (hq : q ≤ vs.length) (ho : q < vs.length → o = q) (hm : m = vs.length - q) :
    SrcG w (.slice (some ⟨g, o, none⟩) m c) (vs.drop q) := by
  refine .inr ⟨⟨g, o, none⟩, c, by rw [List.length_drop, hm], fun j hj => ?_⟩
  have hj' : j < vs.length - q := by simpa using hj
  obtain rfl := ho (by omega)
  rw [addr_addV, h.at.2.2.2.2.2.1 (o + j) (by omega)]
  simp

set_option maxHeartbeats 4000000 in
theorem spec_cycles (b p : Nat) (w : World) (hb : 2 ≤ b) (hb' : b ≤ 10) (hp : 1 ≤ p) (hp' : p ≤ 4) :
    Calls Try.prog 30 #[.int .i64 (b : Int), .int .i64 (p : Int)] w fun e w' => ∃ u vs, e = .returned (.tuple #[u, .bool true]) ∧ LLv w' w.heap.size u vs (cycs (ps b p) (gs b p + 1)) ∧ Below w.heap.size w w' := by
  have hgs := gs_bd hb hb' hp hp'
  have a2 : decide (Pow (p : Int) 4) = true := decide_eq_true ⟨by omega, by omega⟩
  have m0 : (2 : Int) ≤ (b : Int) := by omega
  have m1 : (b : Int) ≤ 10 := by omega
  have HIN := Lib.hid (gs_into (p := p) hb (show b ≤ 16 by omega) hp (show p ≤ 8 by omega))
  have HGT := Lib.hid (show ∀ w' : World, Calls Try.prog 65 #[.int .i64 (b : Int), .int .i64 (p : Int)] w' fun e w'' => e = .returned (.int .i64 ((gs b p : Nat) : Int)) ∧ w' = w'' from fun w' => pwGreatest_any b p w' hb (by omega) hp (by omega))
  have HSM := Lib.hid (show ∀ (x : Nat) (w' : World), x ≤ 40000 → Calls Try.prog 53 #[.int .i64 (x : Int), .int .i64 (b : Int), .int .i64 (p : Int)] w' fun e w'' => e = .returned (.int .i64 ((ps b p x : Nat) : Int)) ∧ w' = w'' from fun x w' hx => pwSum_any x b p w' (by omega) hb (by omega) (by omega))
  have HRN := Lib.hid (show ∀ (x : Nat) (w' : World), x ≤ 40000 → cyc (ps b p) (gs b p + 1) x = true → Calls Try.prog 59 #[.int .i64 (x : Int), .int .i64 (b : Int), .int .i64 (p : Int)] w' fun e w'' => ∃ g c, e = .returned (.tuple #[.slice (some ⟨g, 0, none⟩) (per (ps b p) (gs b p + 1) x) c, .int .i64 0]) ∧
      Rd w'' w'.heap.size (.slice (some ⟨g, 0, none⟩) (per (ps b p) (gs b p + 1) x) c) (nts (rnd (ps b p) (gs b p + 1) x)) ∧ Below w'.heap.size w' w'' from fun x w' hx hc => by
    obtain ⟨e1, e2, e3⟩ := run_cyc (M := PM) HIN.out hc (it_ps hb (by omega) (by omega) (by omega))
    have := pwRun_any x b p w' (by omega) hb (by omega) hp (by omega)
    rw [e1, e2, e3] at this
    exact this)
  obtain ⟨m, hm⟩ : ∃ m, m = gs b p := ⟨_, rfl⟩
  obtain ⟨f, hf⟩ : ∃ f, f = ps b p := ⟨_, rfl⟩
  rw [← hm] at HGT HIN HRN hgs ⊢
  rw [← hf] at HSM HIN HRN ⊢
  obtain ⟨n, hn⟩ : ∃ n, n = m + 1 := ⟨_, rfl⟩
  have hni : (m : Int) + 1 = (n : Int) := by omega
  have hnb : n ≤ 40000 := by omega
  rw [← hn] at HIN HRN ⊢
  have HN := Lib.hid hn
  clear hm hf hgs hn hp hp' hb hb'
  go_enter Try.func30, Try.ntmps30
  go_wp2_with (first | (go_at_call 67; refine (l1In_yes _ _ _ _ m0 m1).mono ?_; rintro e w1 ⟨rfl, rfl⟩) | (go_at_call 52; refine (pwPower_any _ _ _).mono ?_; rintro e w1 ⟨rfl, rfl⟩) | (go_at_call 65; refine (HGT.out _).mono ?_; rintro e w1 ⟨rfl, rfl⟩) | (at_make; refine wpList_mkR rfl _ _ rfl .i64 .i64 _ _ n rfl rfl rfl rfl (by omega) ?_; intro w2 hr2 hg2 hb2; rw [lst_rep] at hr2; have R2 := Lib.hid hr2; have B2 := Lib.hid hb2; have Z2 := Lib.hid (hr2.at.2.2.1); clear hr2 hg2 hb2))
  go_loopw [8, 9] (fun v i wr => ∃ (k : Nat) (s : Nat → Nat) (vs : List Value), k ≤ n ∧ i = .int .i64 (k : Int) ∧ Hid (Inv f n k s) ∧ LLv wr w2.heap.size v vs ((ld f n s).map (rnd f n)) ∧ Rd wr w.heap.size (.slice (some ⟨w.heap.size, 0, none⟩) n n) (lst n s) ∧ Below w.heap.size w wr ∧ w2.heap.size ≤ wr.heap.size) (fun _ i _ => n - (intOf i).toNat)
  case atStart => exact ⟨0, fun _ => 0, [], Nat.zero_le _, rfl, Lib.hid (inv_zero f n), by rw [ld_zero]; exact LLv.nil _ _, R2.out, B2.out, Nat.le_refl _⟩
  case round =>
    rename World => wa
    obtain ⟨k, s, vs, hk, rfl, HI, hv, hr, hbl, hz⟩ := hrel
    have HV := Lib.hid hv
    have HR := Lib.hid hr
    have HB := Lib.hid hbl
    have HZ := Lib.hid hz
    clear hv hr hbl hz
    by_cases hlt : k < n
    · have hkm : k ≤ m := by have := HN.out; omega
      go_wp2
      go_loopw [10] (fun x wq => ∃ j : Nat, x = .int .i64 ((it f j k : Nat) : Int) ∧ Hid (∀ i, i < j → s (it f i k) = 0) ∧ LLv wq w2.heap.size u8 vs ((ld f n s).map (rnd f n)) ∧ Rd wq w.heap.size (.slice (some ⟨w.heap.size, 0, none⟩) n n) (lst n (sJ f k j s)) ∧ Below w.heap.size w wq ∧ w2.heap.size ≤ wq.heap.size) (fun _ wq => cnt n (fun y => isZ (wq.cell? ⟨w.heap.size, y, none⟩)))
      case atStart => exact ⟨0, rfl, Lib.hid (fun i hi => by omega), HV.out, by rw [sJ_zero]; exact HR.out, HB.out, HZ.out⟩
      case round =>
        rename World => wq
        obtain ⟨j, rfl, H0, hv, hr, hbl, hz⟩ := hrel
        have HVj := Lib.hid hv
        have HRj := Lib.hid hr
        have HBj := Lib.hid hbl
        have HZj := Lib.hid hz
        clear hv hr hbl hz
        have hy := it_lt HIN.out j hlt
        obtain ⟨y, hyy⟩ : ∃ y, y = it f j k := ⟨_, rfl⟩
        have HY := Lib.hid hyy
        rw [← hyy] at hy ⊢
        clear hyy
        have hqb := bd_sJ (j := j) HI.out hy
        have hcell : wq.cell? ⟨w.heap.size, y, none⟩ = some (.int .i64 ((sJ f k j s y : Nat) : Int)) := by rw [HRj.out.at.2.2.2.2.1 y (by rw [lst_len]; exact hy), lst_at]
        have hfz := HRj.out.at.2.2.2.2.2 y
        obtain ⟨q, hqq⟩ : ∃ q, q = sJ f k j s y := ⟨_, rfl⟩
        have HQ := Lib.hid hqq
        rw [← hqq] at hcell hqb
        clear hqq
        by_cases hq0 : q = 0
        · have hsy : sJ f k j s y = 0 := by rw [← HQ.out]; exact hq0
          have HE := Lib.hid (sJ_step f k j s)
          have HS0 := Lib.hid (show ∀ i, i < j + 1 → s (it f i k) = 0 from fun i hi => by
            by_cases e : i = j
            · subst e
              rw [← HY.out]
              by_cases hm : ∃ i', i' < i ∧ it f i' k = y
              · rw [sJ_yes hm] at hsy; omega
              · rw [sJ_no hm] at hsy; exact hsy
            · exact H0.out i (by omega))
          have HZM := Lib.hid (zs_mem HRj.out)
          have HSY := Lib.hid hsy
          have hk1 : (k : Int) + 1 = ((k + 1 : Nat) : Int) := by omega
          have RS := Lib.hid (HRj.out.set y ((k : Int) + 1))
          have HRS := Lib.hid (show Rd (wq.setCell ⟨w.heap.size, y, none⟩ (.int .i64 ((k : Int) + 1))) w.heap.size (.slice (some ⟨w.heap.size, 0, none⟩) n n) (lst n (sJ f k (j + 1) s)) by
            rw [← HE.out, ← HY.out, ← lst_mark _ hy, ← hk1]; exact RS.out.1)
          have BS := Lib.hid (HBj.out.setCell (p := ⟨w.heap.size, y, none⟩) (Nat.le_refl _) (.int .i64 ((k : Int) + 1)))
          have VS := Lib.hid (HVj.out.setR HRj.out rfl Z2.out RS.out.2)
          have ZS := Lib.hid (Nat.le_trans HZj.out RS.out.2.size)
          have HMS := Lib.hid (show cnt n (fun z => isZ ((wq.setCell ⟨w.heap.size, y, none⟩ (.int .i64 ((k : Int) + 1))).cell? ⟨w.heap.size, z, none⟩)) < cnt n (fun z => isZ (wq.cell? ⟨w.heap.size, z, none⟩)) by
            rw [zs_mem HRS.out, HZM.out, ← HE.out, ← HY.out]
            have := zs_mark (q := k + 1) hy HSY.out (by omega)
            omega)
          have hyb : y ≤ 40000 := by omega
          subst hq0
          clear hsy hk1
          go_wp2_with (go_at_call 53; refine (HSM.out y _ hyb).mono ?_; rintro e w3 ⟨rfl, rfl⟩)
          go_roundw
          case rel => exact ⟨j + 1, by rw [HY.out]; rfl, HS0, VS.out, HRS.out, BS.out, ZS.out⟩
          case measure => exact HMS.out
        · have hz0 : ((q : Int) == 0) = false := beq_no (by omega)
          by_cases hqk : q = k + 1
          · have hz1 : ((q : Int) != (k : Int) + 1) = false := bne_no (by omega)
            have HNW := Lib.hid (inv_new HIN.out HI.out hlt H0.out (by rw [← HY.out, ← HQ.out]; exact hqk))
            rw [← HY.out] at HNW
            have HCY := Lib.hid HNW.out.1
            have HIV := Lib.hid HNW.out.2.1
            obtain ⟨m0, hm0, hl0, hmr, htn⟩ := turn_rnd HIN.out HCY.out
            obtain ⟨hsz, hput⟩ := HNW.out.2.2 m0 hl0 hmr
            obtain ⟨idx, hidx, hld, hlo, hhi⟩ := ld_put hm0 hl0 hsz hput
            have HPP := Lib.hid (per_spec HIN.out HCY.out)
            have HRY := Lib.hid (fun w' => HRN.out y w' (by omega) HCY.out)
            have HXL := Lib.hid (show (nts (rnd f n y)).length = per f n y by rw [nts_len, rnd_len])
            obtain ⟨P, hP⟩ : ∃ P, P = per f n y := ⟨_, rfl⟩
            obtain ⟨xs, hxs⟩ : ∃ xs, xs = nts (rnd f n y) := ⟨_, rfl⟩
            rw [← hP] at HPP HRY HXL
            rw [← hxs] at HRY HXL htn
            have hP1 := HPP.out.1
            have hP2 := HPP.out.2.1
            have HTN := Lib.hid htn
            have HTL := Lib.hid (show (nts (rnd f n m0)).length = P by rw [← htn, turn_len, HXL.out])
            have HLL := Lib.hid (ld_len f n s)
            obtain ⟨ls, hls⟩ : ∃ ls, ls = ld f n s := ⟨_, rfl⟩
            rw [← hls] at hidx hlo hhi hld HLL HVj
            have HLD := Lib.hid (show (ld f n (sJ f k j s)).map (rnd f n) = (ls.map (rnd f n)).take idx ++ [rnd f n m0] ++ (ls.map (rnd f n)).drop idx by rw [hld, List.map_append, List.map_append, List.map_take, List.map_drop]; rfl)
            have HLO := Lib.hid hlo
            have HHI := Lib.hid hhi
            have HVN := Lib.hid (show vs.length = ls.length by rw [HVj.out.len, List.length_map])
            clear hqk HNW hmr hsz hput hld hlo hhi htn hP hxs hls hq0
            go_wp2_with fail
            refine (HRY.out _).mono ?_
            rintro e w3 ⟨g, c, rfl, hr3, hb3⟩
            have hcap := hr3.at.2.2.2.1
            rw [HXL.out] at hcap
            have HC := Lib.hid (show CellsAt w3 g 0 xs by have := hr3.cellsAt 0; rw [List.drop_zero] at this; exact this)
            have HV3 := Lib.hid (HVj.out.keep hb3)
            have B3 := Lib.hid hb3
            have hc0 : ¬ c = 0 := by omega
            have hc1 : 0 < c := by omega
            clear hr3 hb3
            go_wp2_with fail
            refine (pwTurned_any g 0 P c xs _ HC.out HXL.out.symm (by omega) (by omega) (by omega)).mono ?_
            rintro e w4 ⟨u, rfl, hr4, hb4⟩
            rw [HTN.out] at hr4
            have HB4 := Lib.hid (Below.step B3.out B3.out.size hb4)
            have HV4 := Lib.hid (HVj.out.keep HB4.out)
            have HA4 := Lib.hid (fun (i : Nat) (z : Value) (hi : vs[i]? = some z) => let ⟨l, _, hz⟩ := HVj.out.rd hi; Rd.apart (fun q hq => Nat.lt_of_lt_of_le (hz.lt q hq).2 B3.out.size) hr4)
            have HU4 := Lib.hid (hr4.mono (Nat.le_trans HZj.out B3.out.size))
            obtain ⟨gu, cu, rfl⟩ : ∃ gu cu, u = .slice (some ⟨gu, 0, none⟩) P cu := by
              rcases hr4.cases with ⟨_, hx⟩ | ⟨gu, cu, hu, _⟩
              · have h2 := HTL.out; rw [hx] at h2; simp at h2; omega
              · rw [HTL.out] at hu; exact ⟨gu, cu, hu⟩
            have HZ4 := Lib.hid (Nat.le_trans HZj.out HB4.out.size)
            have HFIN := Lib.hid (show ∀ W1, Below w4.heap.size w4 W1 → Rd W1 w.heap.size (.slice (some ⟨w.heap.size, 0, none⟩) n n) (lst n (sJ f k j s)) ∧ Below w.heap.size w W1 ∧ w2.heap.size ≤ W1.heap.size from fun W1 h =>
              ⟨(HRj.out.keep HB4.out).keep h, Below.step (Below.step HBj.out HBj.out.size HB4.out) (Nat.le_trans HBj.out.size HB4.out.size) h, Nat.le_trans HZ4.out h.size⟩)
            have HFV := Lib.hid (show ∀ W1, Below w4.heap.size w4 W1 → LLv W1 w2.heap.size u8 vs (ls.map (rnd f n)) from fun W1 h => HV4.out.keep h)
            have HUC := Lib.hid (show ∀ W1, Below w4.heap.size w4 W1 → W1.cell? ⟨gu, 0, none⟩ = some (.int .i64 (m0 : Int)) from fun W1 h => by
              have h2 := (HU4.out.keep h).at.2.2.2.2.1 0 (by rw [HTL.out]; omega)
              rw [h2]
              have h3 : (nts (rnd f n m0))[0]? = some ((it f 0 m0 : Nat) : Int) := nts_rnd_get (by have := HTL.out; rw [nts_len, rnd_len] at this; omega)
              obtain ⟨_, h4⟩ := List.getElem?_eq_some_iff.1 h3
              rw [h4]; rfl)
            have HONE := Lib.hid (show ∀ q ∈ vs, q.oneCell' = true from fun q hq => by
              obtain ⟨i, hi⟩ := List.getElem?_of_mem hq
              obtain ⟨l, _, hz⟩ := HVj.out.rd hi
              rcases hz.cases with ⟨rfl, _⟩ | ⟨g', c', rfl, _⟩ <;> rfl)
            have HLB := Lib.hid (show vs.length ≤ 40000 by have := HLL.out; rw [HVN.out]; omega)
            have HIL := Lib.hid (show idx ≤ vs.length by rw [HVN.out]; exact hidx)
            clear hr4 hb4
            rcases HVj.out.row.cases with ⟨h8, hvs⟩ | ⟨gv, cv, h8⟩
            · subst h8
              subst hvs
              have hidx0 : idx = 0 := by have := HIL.out; simp at this; exact this
              subst hidx0
              go_wp2
              refine wp_loop_rounds 1 ?_
              rw [rounds_succ]
              go_wp2_with fail
              go_quiet (fail)
              rename_i nq
              go_wp2_with (first | (at_builtin; refine wpList_appGS rfl (.tmp 86) (.tmp 89) 34 25 (.slice none 0 0) 24 Try.underlying34 infoL (by omega) rfl rfl (w4.drewN nq).heap.size _ _ [] [] rfl rfl (rg_empty _ _) (.inl ⟨rfl, rfl⟩) (fun q hq => HONE.out q (by first | exact List.mem_of_mem_take hq | (simp at hq))) (by have := HLB.out; simp <;> omega) (by simp) ?_; intro v1 w5 hr5 hg5 hb5; have R5 := Lib.hid hr5; have B5 := Lib.hid ((Below.alloc (below_drewN' (Below.refl w4.heap.size w4) nq) (below_drewN' (Below.refl w4.heap.size w4) nq).size _).trans (hb5.mono (below_drewN' (Below.refl w4.heap.size w4) nq).size)); have Z5 := Lib.hid (show (w4.drewN nq).heap.size ≤ w5.heap.size from Nat.le_trans (by simp) hb5.size); clear hr5 hg5 hb5) | (at_builtin; refine wpList_appG rfl (.tmp 90) (.tmp 92) _ 25 (.slice none 0 0) 24 Try.underlying34 infoL (by omega) rfl rfl (w4.drewN nq).heap.size (w4.drewN nq).heap.size _ _ ([] ++ []) [.slice (some ⟨gu, 0, none⟩) P cu] rfl rfl (R5.out.alloc _) (Rg.lit _ _ _ _ Z5.out) (by simp [Value.oneCell']) (by have := HLB.out; simp <;> omega) (Nat.le_trans Z5.out (by simp)) ?_; intro v2 w6 hr6 hg6 hb6; have R6 := Lib.hid hr6; have B6 := Lib.hid ((B5.out.alloc B5.out.size _).trans (hb6.mono (below_drewN' (Below.refl w4.heap.size w4) nq).size)); have Z6 := Lib.hid (show (w4.drewN nq).heap.size ≤ w6.heap.size from Nat.le_trans Z5.out (Nat.le_trans (by simp) hb6.size)); clear hr6 hg6 hb6) | (at_builtin; refine wpList_appGS rfl (.tmp 94) (.tmp 97) 34 25 (.slice none 0 0) 24 Try.underlying34 infoL (by omega) rfl rfl (w4.drewN nq).heap.size _ _ _ [] rfl rfl R6.out (.inl ⟨rfl, rfl⟩) (fun q hq => HONE.out q (by first | exact List.mem_of_mem_drop hq | (simp at hq))) (by have := HLB.out; simp <;> omega) Z6.out ?_; intro v3 w7 hr7 hg7 hb7; have R7 := Lib.hid hr7; have B7 := Lib.hid (B6.out.trans (hb7.mono (below_drewN' (Below.refl w4.heap.size w4) nq).size)); clear hr7 hg7 hb7))
              have HIN7 := Lib.hid (LLv.ins (v' := v3) (i := 0) HV4.out (Nat.zero_le _) HU4.out HA4.out B7.out (R7.out.mono (Nat.le_trans HZ4.out (below_drewN' (Below.refl w4.heap.size w4) nq).size)))
              have HF7 := Lib.hid (HFIN.out _ B7.out)
              go_roundw
              case rel => exact ⟨k + 1, _, ([] ++ [.slice (some ⟨gu, 0, none⟩) P cu] ++ []), by omega, by go_num, HIV, by rw [HLD.out]; exact HIN7.out, HF7.out.1, HF7.out.2.1, HF7.out.2.2⟩
              case measure => simp [intOf]; omega
            · subst h8
              obtain ⟨N, hN⟩ : ∃ N, N = vs.length := ⟨_, rfl⟩
              rw [← hN] at HFV HV4 HVj ⊢
              have hidN : idx ≤ N := by rw [hN]; exact HIL.out
              have hNc : N ≤ cv := by have := HVj.out.row.at.2.2.2.1; rw [← hN] at this; exact this
              have hNb : N ≤ 40000 := by rw [hN]; exact HLB.out
              have HNL := Lib.hid hN
              clear hN
              go_wp2
              go_loopw [14] (fun i wt => ∃ t : Nat, t ≤ idx ∧ i = .int .i64 (t : Int) ∧ Below w4.heap.size w4 wt) (fun i _ => idx - (intOf i).toNat)
              case atStart => exact ⟨0, Nat.zero_le _, rfl, Below.refl _ _⟩
              case round =>
                rename World => wt
                obtain ⟨t, ht, rfl, hbt⟩ := hrel
                have HBt := Lib.hid hbt
                have hcu := HUC.out _ hbt
                have HVt := Lib.hid (HFV.out _ hbt)
                clear hbt
                by_cases htN : t < N
                · obtain ⟨z, hz⟩ : ∃ z, vs[t]? = some z := ⟨vs[t]'(by rw [← HNL.out]; exact htN), by simp⟩
                  have hcz : wt.cell? ⟨gv, t, none⟩ = some z := by
                    obtain ⟨i1, i2⟩ := List.getElem?_eq_some_iff.1 hz
                    rw [HVt.out.row.at.2.2.2.2.2.1 t i1, i2]
                  obtain ⟨l, hl, hrz⟩ := HVt.out.rd hz
                  have htl : t < ls.length := by rw [← HVN.out, ← HNL.out]; exact htN
                  have hlt2 : l = rnd f n (ls[t]) := by
                    rw [List.getElem?_map, List.getElem?_eq_getElem htl] at hl
                    simpa using hl.symm
                  obtain ⟨m1', hm1⟩ : ∃ m1', m1' = ls[t] := ⟨_, rfl⟩
                  have HLT := Lib.hid (show t < idx → m1' < m0 from fun h => by rw [hm1]; exact HLO.out t htl h)
                  have HGT2 := Lib.hid (show t = idx → m0 < m1' from fun h => by subst h; rw [hm1]; exact HHI.out htl)
                  rw [hlt2, ← hm1] at hrz
                  have hpp : 0 < per f n m1' := by unfold per; omega
                  obtain ⟨gz, pz, cz, hze⟩ : ∃ gz pz cz, z = .slice (some ⟨gz, 0, none⟩) pz cz ∧ 0 < pz := by
                    rcases hrz.cases with ⟨_, hx⟩ | ⟨gz, cz, hu, _⟩
                    · have := congrArg List.length hx; rw [nts_len, rnd_len] at this; simp at this; omega
                    · exact ⟨gz, _, cz, hu, by rw [nts_len, rnd_len]; exact hpp⟩
                  obtain ⟨rfl, hpz⟩ := hze
                  have hch : wt.cell? ⟨gz, 0, none⟩ = some (.int .i64 (m1' : Int)) := by
                    have h2 := hrz.at.2.2.2.2.1 0 (by rw [nts_len, rnd_len]; exact hpp)
                    rw [h2]
                    have h3 : (nts (rnd f n m1'))[0]? = some ((it f 0 m1' : Nat) : Int) := nts_rnd_get hpp
                    obtain ⟨_, h4⟩ := List.getElem?_eq_some_iff.1 h3
                    rw [h4]; rfl
                  clear hz hl hlt2 hm1 hrz
                  by_cases hti : t < idx
                  · have hmm : m1' < m0 := HLT.out hti
                    go_wp2
                    go_quiet (fail)
                    rename_i nq
                    go_wp2
                    go_roundw
                    case rel => exact ⟨t + 1, by omega, by go_num, below_drewN' HBt.out _⟩
                    case measure => simp [intOf]; omega
                  · obtain rfl : t = idx := by omega
                    have hmm : ¬ m1' < m0 := by have := HGT2.out rfl; omega
                    have hqc : ¬ cv = t := by omega
                    have hqc2 : t < cv := by omega
                    have hqc3 : t ≤ cv := by omega
                    go_wp2
                    go_quiet (fail)
                    rename_i nq
                    go_wp2_with (first | (at_builtin; refine wpList_appGS rfl (.tmp 86) (.tmp 89) 34 25 (.slice none 0 0) 24 Try.underlying34 infoL (by omega) rfl rfl (wt.drewN nq).heap.size _ _ [] (vs.take t) rfl rfl (rg_empty _ _) (srcG_take ((HFV.out _ (Below.alloc (below_drewN' HBt.out nq) (below_drewN' HBt.out nq).size _)).row) t _ HIL.out) (fun q hq => HONE.out q (by first | exact List.mem_of_mem_take hq | (simp at hq))) (by have := HLB.out; simp <;> omega) (by simp) ?_; intro v1 w5 hr5 hg5 hb5; have R5 := Lib.hid hr5; have B5 := Lib.hid ((Below.alloc (below_drewN' HBt.out nq) (below_drewN' HBt.out nq).size _).trans (hb5.mono (below_drewN' HBt.out nq).size)); have Z5 := Lib.hid (show (wt.drewN nq).heap.size ≤ w5.heap.size from Nat.le_trans (by simp) hb5.size); clear hr5 hg5 hb5) | (at_builtin; refine wpList_appG rfl (.tmp 90) (.tmp 92) _ 25 (.slice none 0 0) 24 Try.underlying34 infoL (by omega) rfl rfl (wt.drewN nq).heap.size (wt.drewN nq).heap.size _ _ ([] ++ vs.take t) [.slice (some ⟨gu, 0, none⟩) P cu] rfl rfl (R5.out.alloc _) (Rg.lit _ _ _ _ Z5.out) (by simp [Value.oneCell']) (by have := HLB.out; simp <;> omega) (Nat.le_trans Z5.out (by simp)) ?_; intro v2 w6 hr6 hg6 hb6; have R6 := Lib.hid hr6; have B6 := Lib.hid ((B5.out.alloc B5.out.size _).trans (hb6.mono (below_drewN' HBt.out nq).size)); have Z6 := Lib.hid (show (wt.drewN nq).heap.size ≤ w6.heap.size from Nat.le_trans Z5.out (Nat.le_trans (by simp) hb6.size)); clear hr6 hg6 hb6) | (at_builtin; refine wpList_appGS rfl (.tmp 94) (.tmp 97) 34 25 (.slice none 0 0) 24 Try.underlying34 infoL (by omega) rfl rfl (wt.drewN nq).heap.size _ _ _ (vs.drop t) rfl rfl R6.out (srcG_drop ((HFV.out _ B6.out).row) t _ _ _ HIL.out (fun h => by have h9 := HNL.out; first | rfl | omega) (by have := HNL.out; omega)) (fun q hq => HONE.out q (by first | exact List.mem_of_mem_drop hq | (simp at hq))) (by have := HLB.out; simp <;> omega) Z6.out ?_; intro v3 w7 hr7 hg7 hb7; have R7 := Lib.hid hr7; have B7 := Lib.hid (B6.out.trans (hb7.mono (below_drewN' HBt.out nq).size)); clear hr7 hg7 hb7))
                    have HIN7 := Lib.hid (LLv.ins (v' := v3) HV4.out HIL.out HU4.out HA4.out B7.out (R7.out.mono (Nat.le_trans HZ4.out (below_drewN' HBt.out nq).size)))
                    have HF7 := Lib.hid (HFIN.out _ B7.out)
                    go_roundw
                    case rel => exact ⟨k + 1, _, (vs.take t ++ [.slice (some ⟨gu, 0, none⟩) P cu] ++ vs.drop t), by omega, by go_num, HIV, by rw [HLD.out]; exact HIN7.out, HF7.out.1, HF7.out.2.1, HF7.out.2.2⟩
                    case measure => simp [intOf]; omega
                · obtain rfl : t = idx := by omega
                  obtain rfl : t = N := by omega
                  have hfd : decide (t < t) = false := decide_eq_false (by omega)
                  go_wp2
                  go_quiet (fail)
                  rename_i nq
                  by_cases hcl : t < cv
                  · have hce : ¬ cv = t := by omega
                    go_wp2_with (first | (at_builtin; refine wpList_appGS rfl (.tmp 86) (.tmp 89) 34 25 (.slice none 0 0) 24 Try.underlying34 infoL (by omega) rfl rfl (wt.drewN nq).heap.size _ _ [] (vs.take t) rfl rfl (rg_empty _ _) (srcG_take ((HFV.out _ (Below.alloc (below_drewN' HBt.out nq) (below_drewN' HBt.out nq).size _)).row) t _ HIL.out) (fun q hq => HONE.out q (by first | exact List.mem_of_mem_take hq | (simp at hq))) (by have := HLB.out; simp <;> omega) (by simp) ?_; intro v1 w5 hr5 hg5 hb5; have R5 := Lib.hid hr5; have B5 := Lib.hid ((Below.alloc (below_drewN' HBt.out nq) (below_drewN' HBt.out nq).size _).trans (hb5.mono (below_drewN' HBt.out nq).size)); have Z5 := Lib.hid (show (wt.drewN nq).heap.size ≤ w5.heap.size from Nat.le_trans (by simp) hb5.size); clear hr5 hg5 hb5) | (at_builtin; refine wpList_appG rfl (.tmp 90) (.tmp 92) _ 25 (.slice none 0 0) 24 Try.underlying34 infoL (by omega) rfl rfl (wt.drewN nq).heap.size (wt.drewN nq).heap.size _ _ ([] ++ vs.take t) [.slice (some ⟨gu, 0, none⟩) P cu] rfl rfl (R5.out.alloc _) (Rg.lit _ _ _ _ Z5.out) (by simp [Value.oneCell']) (by have := HLB.out; simp <;> omega) (Nat.le_trans Z5.out (by simp)) ?_; intro v2 w6 hr6 hg6 hb6; have R6 := Lib.hid hr6; have B6 := Lib.hid ((B5.out.alloc B5.out.size _).trans (hb6.mono (below_drewN' HBt.out nq).size)); have Z6 := Lib.hid (show (wt.drewN nq).heap.size ≤ w6.heap.size from Nat.le_trans Z5.out (Nat.le_trans (by simp) hb6.size)); clear hr6 hg6 hb6) | (at_builtin; refine wpList_appGS rfl (.tmp 94) (.tmp 97) 34 25 (.slice none 0 0) 24 Try.underlying34 infoL (by omega) rfl rfl (wt.drewN nq).heap.size _ _ _ (vs.drop t) rfl rfl R6.out (srcG_drop ((HFV.out _ B6.out).row) t _ _ _ HIL.out (fun h => by have h9 := HNL.out; first | rfl | omega) (by have := HNL.out; omega)) (fun q hq => HONE.out q (by first | exact List.mem_of_mem_drop hq | (simp at hq))) (by have := HLB.out; simp <;> omega) Z6.out ?_; intro v3 w7 hr7 hg7 hb7; have R7 := Lib.hid hr7; have B7 := Lib.hid (B6.out.trans (hb7.mono (below_drewN' HBt.out nq).size)); clear hr7 hg7 hb7))
                    have HIN7 := Lib.hid (LLv.ins (v' := v3) HV4.out HIL.out HU4.out HA4.out B7.out (R7.out.mono (Nat.le_trans HZ4.out (below_drewN' HBt.out nq).size)))
                    have HF7 := Lib.hid (HFIN.out _ B7.out)
                    go_roundw
                    case rel => exact ⟨k + 1, _, (vs.take t ++ [.slice (some ⟨gu, 0, none⟩) P cu] ++ vs.drop t), by omega, by go_num, HIV, by rw [HLD.out]; exact HIN7.out, HF7.out.1, HF7.out.2.1, HF7.out.2.2⟩
                    case measure => simp [intOf]; omega
                  · obtain rfl : cv = t := by omega
                    go_wp2_with (first | (at_builtin; refine wpList_appGS rfl (.tmp 86) (.tmp 89) 34 25 (.slice none 0 0) 24 Try.underlying34 infoL (by omega) rfl rfl (wt.drewN nq).heap.size _ _ [] (vs.take cv) rfl rfl (rg_empty _ _) (srcG_take ((HFV.out _ (Below.alloc (below_drewN' HBt.out nq) (below_drewN' HBt.out nq).size _)).row) cv _ HIL.out) (fun q hq => HONE.out q (by first | exact List.mem_of_mem_take hq | (simp at hq))) (by have := HLB.out; simp <;> omega) (by simp) ?_; intro v1 w5 hr5 hg5 hb5; have R5 := Lib.hid hr5; have B5 := Lib.hid ((Below.alloc (below_drewN' HBt.out nq) (below_drewN' HBt.out nq).size _).trans (hb5.mono (below_drewN' HBt.out nq).size)); have Z5 := Lib.hid (show (wt.drewN nq).heap.size ≤ w5.heap.size from Nat.le_trans (by simp) hb5.size); clear hr5 hg5 hb5) | (at_builtin; refine wpList_appG rfl (.tmp 90) (.tmp 92) _ 25 (.slice none 0 0) 24 Try.underlying34 infoL (by omega) rfl rfl (wt.drewN nq).heap.size (wt.drewN nq).heap.size _ _ ([] ++ vs.take cv) [.slice (some ⟨gu, 0, none⟩) P cu] rfl rfl (R5.out.alloc _) (Rg.lit _ _ _ _ Z5.out) (by simp [Value.oneCell']) (by have := HLB.out; simp <;> omega) (Nat.le_trans Z5.out (by simp)) ?_; intro v2 w6 hr6 hg6 hb6; have R6 := Lib.hid hr6; have B6 := Lib.hid ((B5.out.alloc B5.out.size _).trans (hb6.mono (below_drewN' HBt.out nq).size)); have Z6 := Lib.hid (show (wt.drewN nq).heap.size ≤ w6.heap.size from Nat.le_trans Z5.out (Nat.le_trans (by simp) hb6.size)); clear hr6 hg6 hb6) | (at_builtin; refine wpList_appGS rfl (.tmp 94) (.tmp 97) 34 25 (.slice none 0 0) 24 Try.underlying34 infoL (by omega) rfl rfl (wt.drewN nq).heap.size _ _ _ (vs.drop cv) rfl rfl R6.out (srcG_drop ((HFV.out _ B6.out).row) cv _ _ _ HIL.out (fun h => by have h9 := HNL.out; first | rfl | omega) (by have := HNL.out; omega)) (fun q hq => HONE.out q (by first | exact List.mem_of_mem_drop hq | (simp at hq))) (by have := HLB.out; simp <;> omega) Z6.out ?_; intro v3 w7 hr7 hg7 hb7; have R7 := Lib.hid hr7; have B7 := Lib.hid (B6.out.trans (hb7.mono (below_drewN' HBt.out nq).size)); clear hr7 hg7 hb7))
                    have HIN7 := Lib.hid (LLv.ins (v' := v3) HV4.out HIL.out HU4.out HA4.out B7.out (R7.out.mono (Nat.le_trans HZ4.out (below_drewN' HBt.out nq).size)))
                    have HF7 := Lib.hid (HFIN.out _ B7.out)
                    go_roundw
                    case rel => exact ⟨k + 1, _, (vs.take cv ++ [.slice (some ⟨gu, 0, none⟩) P cu] ++ vs.drop cv), by omega, by go_num, HIV, by rw [HLD.out]; exact HIN7.out, HF7.out.1, HF7.out.2.1, HF7.out.2.2⟩
                    case measure => simp [intOf]; omega
          · have hz1 : ((q : Int) != (k : Int) + 1) = true := by simp; omega
            have HO := Lib.hid (inv_old HIN.out HI.out hlt H0.out (by rw [← HY.out, ← HQ.out]; exact hq0) (by rw [← HY.out, ← HQ.out]; exact hqk))
            have HL := Lib.hid (ld_congr HO.out.2)
            have HIV := Lib.hid HO.out.1
            clear hq0 hqk
            go_wp2
            go_roundw
            case rel => exact ⟨k + 1, _, vs, by omega, by go_num, HIV, by rw [HL.out]; exact HVj.out, HRj.out, HBj.out, HZj.out⟩
            case measure => simp [intOf]; omega
    · obtain rfl : k = n := by omega
      have hkm : ¬ k ≤ m := by have := HN.out; omega
      have HE := Lib.hid (ld_all HI.out)
      have HVE := Lib.hid (show LLv wa w2.heap.size u8 vs (cycs f k) by rw [← HE.out]; exact HV.out)
      go_wp2
      go_ret2
      exact ⟨_, vs, rfl, HVE.out.mono (Nat.le_of_lt Z2.out), HB.out⟩

end Go.Proofs.Ytejehmplebjnmaa
