/-
  The model's CyclesWith, walked (written by wip/tools/gen_vr.py).
-/
import Derived.Test.YtbgnieajeipllaaVQ
import Derived.BigQuiet
namespace Go.Proofs.Ytbgnieajeipllaa
open Go.RowKit
set_option linter.unusedVariables false
set_option linter.unusedSimpArgs false
set_option maxRecDepth 100000

theorem addr_addV2 (g o j : Nat) : (⟨g, o, none⟩ : Addr).add j = ⟨g, o + j, none⟩ := by
  unfold Addr.add
  split <;> simp_all
theorem srcG_take {w : World} {e : TypeId} {B g n cap : Nat} {vs : List Value} (h : Rg e w B (.slice (some ⟨g, 0, none⟩) n cap) vs) (q c : Nat) (hq : q ≤ vs.length) : SrcG w (.slice (some ⟨g, 0, none⟩) q c) (vs.take q) := by
  refine .inr ⟨⟨g, 0, none⟩, c, by rw [List.length_take, Nat.min_eq_left hq], fun j hj => ?_⟩
  have hj' : j < q := by rw [List.length_take] at hj; omega
  rw [addr_addV2, Nat.zero_add, h.at.2.2.2.2.2.1 j (by omega)]
  simp
theorem srcG_drop {w : World} {e : TypeId} {B g n cap : Nat} {vs : List Value} (h : Rg e w B (.slice (some ⟨g, 0, none⟩) n cap) vs) (q c o m : Nat) (hq : q ≤ vs.length) (ho : q < vs.length → o = q) (hm : m = vs.length - q) :
    SrcG w (.slice (some ⟨g, o, none⟩) m c) (vs.drop q) := by
  refine .inr ⟨⟨g, o, none⟩, c, by rw [List.length_drop, hm], fun j hj => ?_⟩
  have hj' : j < vs.length - q := by simpa using hj
  obtain rfl := ho (by omega)
  rw [addr_addV2, h.at.2.2.2.2.2.1 (o + j) (by omega)]
  simp

def negOf : Value → Nat
  | .int _ q => if q < 0 then 1 else 0
  | _ => 0
theorem negOf_pos {k : IntKind} {j : Nat} : negOf (.int k (j : Int)) = 0 := by
  show (if (j : Int) < 0 then 1 else 0) = 0
  exact if_neg (by omega)
theorem negOf_neg {k : IntKind} : negOf (.int k (-1)) = 1 := rfl
def Looks (d : Int) (X : Option (List Int × Int)) (xs : List Int) : Prop := ∃ pre m, xs = pre ++ [m] ∧ Nst m ∧ crn d (1000 - pre.length) pre m = X
def Found (X : Option (List Int × Int)) (xs : List Int) (q : Int) : Prop := ∃ x, x ∈ xs ∧ X = some (xs, x) ∧ q = (ixN xs x : Int)

set_option maxHeartbeats 8000000 in
theorem spec_cycles (d : Int) (M : Nat) (w : World) (hd : Add d) (hM : 1 ≤ M) (hM2 : M ≤ 200) :
    Calls Try.prog 46 #[.int .i64 d, .int .i64 (M : Int)] w fun e w' => ∃ u vs, e = .returned (.tuple #[u, .bool (outC d M).isSome]) ∧ LLi w' w.heap.size u vs ((outC d M).getD []) ∧ Below w.heap.size w w' := by
  have a1 := add_yes hd
  have d0 : 0 ≤ d := by have := hd.1; omega
  have d1 : d ≤ 99 := hd.2.1
  have HA := Lib.hid (fun k => acc_out d k)
  have m0 : (1 : Int) ≤ (M : Int) := by omega
  have m1 : (M : Int) ≤ 200 := by omega
  clear hd
  go_enter Try.func46, Try.ntmps46
  go_wp2_with (first | (go_at_call 76; refine (stAdded_any _ _).mono ?_; rintro e w1 ⟨rfl, rfl⟩) | (go_at_call 71; refine (l1In_yes _ _ _ _ m0 m1).mono ?_; rintro e w1 ⟨rfl, rfl⟩))
  go_loopw [6, 7] (fun v i wr => ∃ (k : Nat) (o : List (List Int)) (vs : List Value), k ≤ M ∧ i = .int .i64 ((k : Int) + 1) ∧ Hid (outC d k = some o) ∧ LLi wr w.heap.size v vs o ∧ Below w.heap.size w wr) (fun _ i _ => M + 1 - (intOf i).toNat)
  case atStart => exact ⟨0, [], [], Nat.zero_le _, rfl, Lib.hid rfl, LLi.nil _ _, Below.refl _ _⟩
  case round =>
    rename World => wa
    obtain ⟨k, o, vs, hk, rfl, HO, hv, hbl⟩ := hrel
    have HV := Lib.hid hv
    have HB := Lib.hid hbl
    clear hv hbl
    obtain ⟨hol, hog⟩ : o.length ≤ k ∧ ∀ l ∈ o, 0 < l.length ∧ l.length ≤ 1000 := by
      rcases HA.out k (by omega) with ⟨_, h1⟩ | ⟨a', o', _, h2, h3, h4, h5, h6⟩
      · rw [HO.out] at h1; cases h1
      · rw [HO.out] at h2; cases h2
        exact ⟨by rw [← h3.length_eq]; exact h6, fun l hl => h5 l (h3.mem_iff.2 hl)⟩
    have HOG := Lib.hid hog
    clear hog
    by_cases hlt : k < M
    · have HNS := Lib.hid (show Nst ((k : Int) + 1) from ⟨by omega, by omega⟩)
      obtain ⟨n, hn⟩ : ∃ n, n = (k : Int) + 1 := ⟨_, rfl⟩
      obtain ⟨X, hX⟩ : ∃ X, X = crn d 1000 [] n := ⟨_, rfl⟩
      have HCY := Lib.hid (show cyO d n = X.map cyX by rw [cyO, hX]; rfl)
      have HXS := Lib.hid hX
      rw [← hn] at HNS
      have HNN := Lib.hid hn
      have HRUN0 := Lib.hid (show ∀ v, (k : Int) + 1 = v → outC d (k + 1) = (cyO d v).map (insC o) from fun v hv => by rw [← hv, outC, HO.out]; rfl)
      have HRUN := Lib.hid (HRUN0.out n hn.symm)
      rw [HCY.out] at HRUN
      clear hX HCY HRUN0
      go_wp2
      go_loopw [8, 9] (fun v a wr => ∃ (xs : List Int) (q : Int), a = .int .i64 q ∧ Rd wr wa.heap.size v xs ∧ Below wa.heap.size wa wr ∧ xs.length ≤ 1001 ∧ Hid xs.Nodup ∧ 0 < xs.length ∧ lenOf v = xs.length ∧ ((q = -1 ∧ Hid (Looks d X xs)) ∨ (0 ≤ q ∧ Hid (Found X xs q)))) (fun v a _ => 2 * (1002 - lenOf v) + negOf a)
      case atStart => exact ⟨[(k : Int) + 1], -1, rfl, Rd.litB _ _ _ (Nat.le_refl _), (Below.refl _ _).alloc (Nat.le_refl _) _, by simp, Lib.hid (by simp), by simp, rfl, .inl ⟨rfl, Lib.hid ⟨[], (k : Int) + 1, rfl, by rw [← HNN.out]; exact HNS.out, by rw [← HNN.out]; exact HXS.out.symm⟩⟩⟩
      case round =>
        rename World => wr
        obtain ⟨xs, q, rfl, hr, hb2, hxl, HND, hxp, hlo, hst⟩ := hrel
        have HR := Lib.hid hr
        have HB2 := Lib.hid hb2
        clear hb2
        obtain ⟨g8, c8, rfl, hc8⟩ : ∃ g c, u8 = .slice (some ⟨g, 0, none⟩) xs.length c ∧ xs.length ≤ c := by
          rcases hr.cases with ⟨_, hx⟩ | ⟨g, c, hu, _, _, hc, _⟩
          · rw [hx] at hxp; simp at hxp
          · exact ⟨g, c, hu, hc⟩
        clear hr hlo
        rcases hst with ⟨rfl, HL⟩ | ⟨hq0, HF⟩
        · obtain ⟨pre, m, rfl, hm, hcr⟩ := HL.out
          have HM := Lib.hid hm
          have HCR := Lib.hid hcr
          clear HL
          obtain ⟨P, hP⟩ : ∃ P, P = pre.length := ⟨_, rfl⟩
          have hPL : (pre ++ [m]).length = P + 1 := by rw [List.length_append, hP]; rfl
          have HCA := Lib.hid (HR.out.cellsAt 0)
          rw [List.drop_zero] at HCA
          rw [hPL] at hxl hc8 HR ⊢
          obtain ⟨ys, hys⟩ : ∃ ys, ys = pre ++ [m] := ⟨_, rfl⟩
          have hcm : wr.cell? ⟨g8, P, none⟩ = some (.int .i64 m) := by
            have := HCA.out P (by omega)
            rw [Nat.zero_add] at this
            rw [this, hP]
            simp [List.getD_eq_getElem?_getD]
          have HP := Lib.hid hP
          have HYS := Lib.hid hys
          rw [← hys] at HCA HND HR
          have HYL := Lib.hid (show ys.length = P + 1 by rw [hys]; exact hPL)
          have hm0 := hm.1
          have hm1 := hm.2
          have HST := Lib.hid (fun W => stStep_any m d W (by omega) (by omega) d0 d1)
          obtain ⟨x, hx⟩ : ∃ x, x = stp d m := ⟨_, rfl⟩
          have HXV := Lib.hid hx
          rw [← hx] at HST
          clear hcr hP hPL hys hm hx hxp
          by_cases hnx : Nst x
          · have b1 : decide (Nst x) = true := decide_eq_true hnx
            have HNX := Lib.hid hnx
            clear hnx
            by_cases hPl : P + 1 ≤ 1000
            · have hpl2 : decide ((1000 : Int) < (P : Int) + 1) = false := decide_eq_false (by omega)
              go_wp2_with (first | (go_at_call 53; refine (HST.out _).mono ?_; rintro e w1 ⟨rfl, rfl⟩) | (go_at_call 51; refine (stNumber_any _ _).mono ?_; rintro e w1 ⟨rfl, rfl⟩))
              go_loop [9, 51] (fun a i => ∃ t : Nat, t ≤ P + 1 ∧ i = .int .i64 (t : Int) ∧ a = .int .i64 (la ys x t)) (fun _ i => P + 1 - (intOf i).toNat)
              case atStart => exact ⟨0, Nat.zero_le _, rfl, rfl⟩
              case round =>
                obtain ⟨t, ht, rfl, rfl⟩ := hrel
                by_cases htl : t < P + 1
                · have hct := HCA.out t (by rw [HYL.out]; exact htl)
                  rw [Nat.zero_add] at hct
                  obtain ⟨y, hy⟩ : ∃ y, y = ys.getD t 0 := ⟨_, rfl⟩
                  have HY := Lib.hid hy
                  rw [← hy] at hct
                  clear hy
                  by_cases hxy : x = y
                  · have HE := Lib.hid (la_hit (xs := ys) (x := x) (k := t) (by rw [← HY.out, hxy]))
                    go_wp2
                    go_round
                    case rel => exact ⟨t + 1, by omega, by go_num, by rw [HE.out]⟩
                    case measure => simp [intOf]; omega
                  · have HE := Lib.hid (la_miss (xs := ys) (x := x) (k := t) (by rw [← HY.out]; exact fun e => hxy e.symm))
                    go_wp2
                    go_round
                    case rel => exact ⟨t + 1, by omega, by go_num, by rw [HE.out]⟩
                    case measure => simp [intOf]; omega
                · obtain rfl : t = P + 1 := by omega
                  by_cases hin : x ∈ ys
                  · have HE := Lib.hid (show la ys x (P + 1) = (ixN ys x : Int) by rw [← HYL.out]; exact la_in hin HND.out)
                    have HFD := Lib.hid (show Found X ys (ixN ys x : Int) from ⟨x, hin, by rw [← HCR.out, HYS.out, HXV.out]; exact crn_hit (by rw [← HXV.out]; exact HNX.out) (by rw [← HP.out]; omega) (by rw [← HXV.out, ← HYS.out]; exact hin), rfl⟩)
                    rw [HE.out]
                    obtain ⟨j, hj⟩ : ∃ j, j = ixN ys x := ⟨_, rfl⟩
                    rw [← hj] at HFD ⊢
                    clear hin hj HE
                    have hneg : decide ((j : Int) < 0) = false := decide_eq_false (by omega)
                    go_wp2
                    go_roundw
                    case rel => refine ⟨_, _, _, _, ?_, rfl, rfl, rfl, rfl⟩; exact ⟨ys, (j : Int), rfl, HR.out, HB2.out, by rw [HYL.out]; exact hxl, HND, by rw [HYL.out]; omega, by rw [HYL.out]; rfl, .inr ⟨by omega, HFD⟩⟩
                    case measure => (rw [negOf_pos, negOf_neg]; simp [lenOf])
                  · have HE := Lib.hid (show la ys x (P + 1) = -1 by rw [← HYL.out]; exact la_out hin)
                    have HLK := Lib.hid (show Looks d X (ys ++ [x]) from ⟨ys, x, rfl, HNX.out, by
                      have h := crn_go (d := d) (pre := pre) (m := m) (by rw [← HXV.out]; exact HNX.out) (by rw [← HP.out]; omega) (by rw [← HXV.out, ← HYS.out]; exact hin)
                      rw [← HXV.out, ← HYS.out] at h
                      rw [← h]; exact HCR.out⟩)
                    have HND2 := Lib.hid (show (ys ++ [x]).Nodup from List.nodup_append.2 ⟨HND.out, by simp, fun a ha b hb e => by rw [List.mem_singleton] at hb; subst hb; subst e; exact hin ha⟩)
                    rw [HE.out]
                    clear hin HE
                    have HS2 := Lib.hid HB2.out.size
                    go_wp2_with (at_builtin; refine wpList_appR rfl _ _ rfl wa.heap.size wa.heap.size _ _ ys [x] rfl rfl (HR.out.alloc _) (Rd.litB _ _ _ HS2.out) (by rw [HYL.out]; simp; omega) (by have := HS2.out; simp; omega) ?_; intro v3 w3 hr3 hg3 hb3; have R3 := Lib.hid hr3; have B3 := Lib.hid ((HB2.out.alloc HS2.out _).trans hb3); clear hr3 hg3 hb3)
                    go_roundw
                    case rel => refine ⟨_, _, _, _, ?_, rfl, rfl, rfl, rfl⟩; exact ⟨ys ++ [x], -1, rfl, R3.out, B3.out, by rw [List.length_append, HYL.out]; simp; omega, HND2, by simp, lenOf_rd R3.out, .inl ⟨rfl, HLK⟩⟩
                    case measure => (rw [lenOf_rd R3.out, List.length_append, HYL.out]; simp [lenOf]; omega)
            · have hpl2 : decide ((1000 : Int) < (P : Int) + 1) = true := decide_eq_true (by omega)
              have HXN := Lib.hid (show X = none by rw [← HCR.out]; exact crn_long (by rw [← HP.out]; omega))
              have HN2 := Lib.hid (outC_none (show outC d (k + 1) = none by rw [HRUN.out, HXN.out]; rfl) M (by omega))
              go_wp2_with (first | (go_at_call 53; refine (HST.out _).mono ?_; rintro e w1 ⟨rfl, rfl⟩) | (go_at_call 51; refine (stNumber_any _ _).mono ?_; rintro e w1 ⟨rfl, rfl⟩))
              go_ret2
              exact ⟨_, [], by rw [HN2.out]; rfl, by rw [HN2.out]; exact LLi.nil _ _, Below.step HB.out HB.out.size HB2.out⟩
          · have b1 : decide (Nst x) = false := decide_eq_false hnx
            have HXN := Lib.hid (show X = none by rw [← HCR.out]; exact crn_out (by rw [← HXV.out]; exact hnx))
            have HN2 := Lib.hid (outC_none (show outC d (k + 1) = none by rw [HRUN.out, HXN.out]; rfl) M (by omega))
            clear hnx
            go_wp2_with (first | (go_at_call 53; refine (HST.out _).mono ?_; rintro e w1 ⟨rfl, rfl⟩) | (go_at_call 51; refine (stNumber_any _ _).mono ?_; rintro e w1 ⟨rfl, rfl⟩))
            go_ret2
            exact ⟨_, [], by rw [HN2.out]; rfl, by rw [HN2.out]; exact LLi.nil _ _, Below.step HB.out HB.out.size HB2.out⟩
        · obtain ⟨x, hxm, hXe, hqe⟩ := HF.out
          obtain ⟨Q, hQ⟩ : ∃ Q : Nat, Q = ixN xs x := ⟨_, rfl⟩
          have hQL : Q < xs.length := by rw [hQ]; exact (ixN_spec xs hxm).1
          obtain rfl : q = (Q : Int) := by rw [hqe, hQ]
          obtain ⟨C, hC⟩ : ∃ C, C = xs.drop Q := ⟨_, rfl⟩
          have hcyx : cyX (xs, x) = turn C := by show turn (xs.drop (ixN xs x)) = _; rw [← hQ, hC]
          have HNEXT := Lib.hid (show outC d (k + 1) = some (insC o (turn C)) by rw [HRUN.out, hXe]; show some (insC o (cyX (xs, x))) = _; rw [hcyx])
          have HCA := Lib.hid (show CellsAt wr g8 Q C by have := HR.out.cellsAt Q; rwa [← hC] at this)
          have hCL : C.length = xs.length - Q := by rw [hC, List.length_drop]
          obtain ⟨L, hL⟩ : ∃ L, L = xs.length := ⟨_, rfl⟩
          rw [← hL] at hCL hxl hQL hc8 HR ⊢
          have HTL := Lib.hid (show (turn C).length = L - Q by rw [turn_len, hCL])
          have HCL := Lib.hid hCL.symm
          clear hXe hqe hxm hQ hC hcyx HF HRUN HXS HNS HNN hL hCL hxp
          have hQ1 : Q ≤ L := by omega
          have hQ2 : Q ≤ c8 := by omega
          have hQ3 : Q < c8 := by omega
          have hQ4 : ¬ c8 = Q := by omega
          have hneg : decide ((Q : Int) < 0) = false := decide_eq_false (by omega)
          go_wp2_with fail
          refine (pwTurned_any g8 Q (L - Q) (c8 - Q) C _ HCA.out HCL.out (by omega) (by omega) (by omega)).mono ?_
          rintro e w4 ⟨u, rfl, hr4, hb4⟩
          have HB24 := Lib.hid (Below.step HB2.out HB2.out.size hb4)
          have HV4 := Lib.hid (HV.out.keep HB24.out)
          have HBO4 := Lib.hid (Below.step HB.out HB.out.size HB24.out)
          have HA4 := Lib.hid (farI HV.out.f.und (hr4.mono HB2.out.size))
          have HU4 := Lib.hid (show Rd w4 w.heap.size u (turn C) from hr4.mono (Nat.le_trans HB.out.size HB2.out.size))
          have HZ4 := Lib.hid HBO4.out.size
          clear hr4 hb4
          obtain ⟨gu, cu, rfl, hcu0, hcu⟩ := head_cell HU4.out (by rw [HTL.out]; omega)
          obtain ⟨P, hP⟩ : ∃ P, P = (turn C).length := ⟨_, rfl⟩
          have hP0 : 0 < P := by rw [hP, HTL.out]; omega
          rw [← hP] at HU4 ⊢
          obtain ⟨h, hh⟩ : ∃ h, h = hd0 (turn C) := ⟨_, rfl⟩
          have HPS := Lib.hid (posC_spec (x := h) o)
          have HIE := Lib.hid (insC_eq (c := turn C) o)
          rw [← hh] at HIE hcu
          obtain ⟨idx, hidx⟩ : ∃ idx, idx = posC o h := ⟨_, rfl⟩
          rw [← hidx] at HPS HIE
          have HNEWF := Lib.hid (show ¬ (idx < o.length ∧ hd0 (o.getD idx []) = h) → outC d (k + 1) = some (o.take idx ++ [turn C] ++ o.drop idx) from fun hn => by rw [HNEXT.out, HIE.out, if_neg hn])
          have HSAME := Lib.hid (show idx < o.length ∧ hd0 (o.getD idx []) = h → outC d (k + 1) = some o from fun hn => by rw [HNEXT.out, HIE.out, if_pos hn])
          have HVN := Lib.hid (show vs.length = o.length from HV.out.len)
          have HFIN := Lib.hid (show ∀ W1, Below w4.heap.size w4 W1 → Below w.heap.size w W1 from fun W1 hb => Below.step HBO4.out HBO4.out.size hb)
          have HFV := Lib.hid (show ∀ W1, Below w4.heap.size w4 W1 → LLi W1 w.heap.size u6 vs o from fun W1 hb => HV4.out.keep hb)
          have HUC := Lib.hid (show ∀ W1, Below w4.heap.size w4 W1 → W1.cell? ⟨gu, 0, none⟩ = some (.int .i64 h) from fun W1 hb => Below.keeps_cell hb hcu)
          have HONE := Lib.hid (show ∀ q ∈ vs, q.oneCell' = true from fun q hq => by
            obtain ⟨i, hi⟩ := List.getElem?_of_mem hq
            obtain ⟨l, _, hz⟩ := HV.out.rd hi
            rcases hz.cases with ⟨rfl, _⟩ | ⟨g', c', rfl, _⟩ <;> rfl)
          have HLB := Lib.hid (show vs.length ≤ 40000 by rw [HVN.out]; omega)
          have HIL := Lib.hid (show idx ≤ vs.length by rw [HVN.out]; exact HPS.out.1)
          clear hP hh hidx HIE HNEXT HCA HCL hneg hQ1 hQ2 hQ3 hQ4 hcu
          rcases HV.out.row.cases with ⟨h8, hvs⟩ | ⟨gv, cv, h8⟩
          · subst h8
            subst hvs
            have hidx0 : idx = 0 := by have := HIL.out; simp at this; exact this
            subst hidx0
            have HNEW := Lib.hid (HNEWF.out (fun hn => by have h1 := hn.1; rw [← HVN.out] at h1; simp at h1))
            go_wp2
            refine wp_loop_rounds 1 ?_
            rw [rounds_succ]
            go_wp2_with fail
            go_quiet (fail)
            go_wp2_with fail
            go_quiet (fail)
            have HW5 := Lib.hid (fun n => below_dN (Below.refl w4.heap.size w4) n)
            have HWS := Lib.hid (Nat.le_refl w4.heap.size)
            go_wp2_with (first
              | (at_builtin; refine wpList_appGS rfl (.tmp 105) (.tmp 108) 34 25 (.slice none 0 0) 24 Try.underlying34 infoL (by omega) rfl rfl w4.heap.size _ _ [] [] rfl rfl ((rg_empty _ _).mono HWS.out) (.inl ⟨rfl, rfl⟩) (fun q hq => HONE.out q (by first | exact List.mem_of_mem_take hq | (simp at hq))) (by have := HLB.out; simp <;> omega) (by have := HWS.out; simp <;> omega) ?_; intro v1 w5 hr5 hg5 hb5; have R5 := Lib.hid hr5; have B5 := Lib.hid ((Below.alloc (HW5.out _) (HW5.out _).size _).trans hb5); have Z5 := Lib.hid B5.out.size; clear hr5 hg5 hb5)
              | (at_builtin; refine wpList_appG rfl (.tmp 109) (.tmp 111) _ 25 (.slice none 0 0) 24 Try.underlying34 infoL (by omega) rfl rfl w4.heap.size w4.heap.size _ _ ([] ++ []) [.slice (some ⟨gu, 0, none⟩) P cu] rfl rfl (R5.out.alloc _) (Rg.lit _ _ _ _ Z5.out) (by simp [Value.oneCell']) (by have := HLB.out; simp <;> omega) (Nat.le_trans Z5.out (by simp)) ?_; intro v2 w6 hr6 hg6 hb6; have R6 := Lib.hid hr6; have B6 := Lib.hid ((B5.out.alloc B5.out.size _).trans hb6); have Z6 := Lib.hid B6.out.size; clear hr6 hg6 hb6)
              | (at_builtin; refine wpList_appGS rfl (.tmp 113) (.tmp 116) 34 25 (.slice none 0 0) 24 Try.underlying34 infoL (by omega) rfl rfl w4.heap.size _ _ _ [] rfl rfl R6.out (.inl ⟨rfl, rfl⟩) (fun q hq => HONE.out q (by first | exact List.mem_of_mem_drop hq | (simp at hq))) (by have := HLB.out; simp <;> omega) Z6.out ?_; intro v3 w7 hr7 hg7 hb7; have R7 := Lib.hid hr7; have B7 := Lib.hid (B6.out.trans hb7); clear hr7 hg7 hb7))
            have HIN7 := Lib.hid (LLi.ins (v' := v3) (i := 0) HV4.out (Nat.zero_le _) HU4.out HA4.out B7.out (R7.out.mono HZ4.out))
            have HF7 := Lib.hid (HFIN.out _ B7.out)
            go_roundw
            case rel => exact ⟨k + 1, _, ([] ++ [.slice (some ⟨gu, 0, none⟩) P cu] ++ []), by omega, by go_num, Lib.hid HNEW.out, HIN7.out, HF7.out⟩
            case measure => simp [intOf]; omega
          · subst h8
            obtain ⟨N, hN⟩ : ∃ N, N = vs.length := ⟨_, rfl⟩
            rw [← hN] at HFV HV4 HV ⊢
            have hidN : idx ≤ N := by rw [hN]; exact HIL.out
            have hNc : N ≤ cv := by have := HV.out.row.at.2.2.2.1; rw [← hN] at this; exact this
            have hNb : N ≤ 40000 := by rw [hN]; exact HLB.out
            have HNL := Lib.hid hN
            clear hN
            go_wp2
            go_loopw [14] (fun i wt => ∃ t : Nat, t ≤ idx ∧ i = .int .i64 (t : Int) ∧ Below w4.heap.size w4 wt) (fun i _ => idx - (intOf i).toNat)
            case atStart => exact ⟨0, Nat.zero_le _, rfl, Below.refl _ _⟩
            case round =>
              rename World => wt
              obtain ⟨t, ht, rfl, hbt⟩ := hrel
              have HBt := Lib.hid hbt
              have hcu := HUC.out _ hbt
              have HVt := Lib.hid (HFV.out _ hbt)
              clear hbt
              by_cases htN : t < N
              · have htv : t < vs.length := by rw [← HNL.out]; exact htN
                have hto : t < o.length := by rw [← HVN.out]; exact htv
                have hz := HVt.out.at' t _ _ (encR_get htv) (lisR_get hto)
                have hcz : wt.cell? ⟨gv, t, none⟩ = some (encR vs t) := LLf.cell HVt.out.f (encR_get htv)
                have hzl := (HOG.out _ (List.mem_of_getElem? (lisR_get hto))).1
                obtain ⟨gz, cz, hze, hz0, hch⟩ := head_cell hz hzl
                rw [hze] at hcz
                obtain ⟨Z, hZ⟩ : ∃ Z, Z = (lisR o t).length := ⟨_, rfl⟩
                rw [← hZ] at hcz hzl
                obtain ⟨y, hy⟩ : ∃ y, y = hd0 (lisR o t) := ⟨_, rfl⟩
                rw [← hy] at hch
                have HY := Lib.hid (show y = hd0 (o.getD t []) by rw [hy, lisR_D hto])
                have HTO := Lib.hid hto
                clear hz hze hZ hy htv hto
                by_cases hti : t < idx
                · have hmm : y < h := by rw [HY.out]; exact HPS.out.2.1 t hti
                  go_wp2
                  go_quiet (fail)
                  go_wp2
                  go_roundw
                  case rel => exact ⟨t + 1, by omega, by go_num, below_dN HBt.out _⟩
                  case measure => simp [intOf]; omega
                · obtain rfl : t = idx := by omega
                  have hmm : ¬ y < h := by have h1 := HPS.out.2.2 HTO.out; rw [← HY.out] at h1; omega
                  have hqc : ¬ cv = t := by omega
                  have hqc2 : t < cv := by omega
                  have hqc3 : t ≤ cv := by omega
                  by_cases heq : y = h
                  · have HNEW := Lib.hid (HSAME.out ⟨HTO.out, by rw [← HY.out]; exact heq⟩)
                    go_wp2
                    go_quiet (fail)
                    go_wp2_with fail
                    go_quiet (fail)
                    go_wp2_with fail
                    go_roundw
                    case rel => exact ⟨k + 1, o, vs, by omega, by go_num, Lib.hid HNEW.out, HVt.out.dN _, HFIN.out _ (below_dN HBt.out _)⟩
                    case measure => simp [intOf]; omega
                  · have HNEW := Lib.hid (HNEWF.out (fun hn => heq (by rw [HY.out]; exact hn.2)))
                    go_wp2
                    go_quiet (fail)
                    go_wp2_with fail
                    go_quiet (fail)
                    have HW5 := Lib.hid (fun n => below_dN HBt.out n)
                    have HWS := Lib.hid HBt.out.size
                    go_wp2_with (first
                      | (at_builtin; refine wpList_appGS rfl (.tmp 105) (.tmp 108) 34 25 (.slice none 0 0) 24 Try.underlying34 infoL (by omega) rfl rfl w4.heap.size _ _ [] (vs.take t) rfl rfl ((rg_empty _ _).mono HWS.out) (srcG_take ((HFV.out _ (Below.alloc (HW5.out _) (HW5.out _).size _)).row) t _ HIL.out) (fun q hq => HONE.out q (by first | exact List.mem_of_mem_take hq | (simp at hq))) (by have := HLB.out; simp <;> omega) (by have := HWS.out; simp <;> omega) ?_; intro v1 w5 hr5 hg5 hb5; have R5 := Lib.hid hr5; have B5 := Lib.hid ((Below.alloc (HW5.out _) (HW5.out _).size _).trans hb5); have Z5 := Lib.hid B5.out.size; clear hr5 hg5 hb5)
                      | (at_builtin; refine wpList_appG rfl (.tmp 109) (.tmp 111) _ 25 (.slice none 0 0) 24 Try.underlying34 infoL (by omega) rfl rfl w4.heap.size w4.heap.size _ _ ([] ++ (vs.take t)) [.slice (some ⟨gu, 0, none⟩) P cu] rfl rfl (R5.out.alloc _) (Rg.lit _ _ _ _ Z5.out) (by simp [Value.oneCell']) (by have := HLB.out; simp <;> omega) (Nat.le_trans Z5.out (by simp)) ?_; intro v2 w6 hr6 hg6 hb6; have R6 := Lib.hid hr6; have B6 := Lib.hid ((B5.out.alloc B5.out.size _).trans hb6); have Z6 := Lib.hid B6.out.size; clear hr6 hg6 hb6)
                      | (at_builtin; refine wpList_appGS rfl (.tmp 113) (.tmp 116) 34 25 (.slice none 0 0) 24 Try.underlying34 infoL (by omega) rfl rfl w4.heap.size _ _ _ (vs.drop t) rfl rfl R6.out (srcG_drop ((HFV.out _ B6.out).row) t _ _ _ HIL.out (fun h => by have h9 := HNL.out; first | rfl | omega) (by have := HNL.out; omega)) (fun q hq => HONE.out q (by first | exact List.mem_of_mem_drop hq | (simp at hq))) (by have := HLB.out; simp <;> omega) Z6.out ?_; intro v3 w7 hr7 hg7 hb7; have R7 := Lib.hid hr7; have B7 := Lib.hid (B6.out.trans hb7); clear hr7 hg7 hb7))
                    have HIN7 := Lib.hid (LLi.ins (v' := v3) (i := t) HV4.out HIL.out HU4.out HA4.out B7.out (R7.out.mono HZ4.out))
                    have HF7 := Lib.hid (HFIN.out _ B7.out)
                    go_roundw
                    case rel => exact ⟨k + 1, _, ((vs.take t) ++ [.slice (some ⟨gu, 0, none⟩) P cu] ++ (vs.drop t)), by omega, by go_num, Lib.hid HNEW.out, HIN7.out, HF7.out⟩
                    case measure => simp [intOf]; omega
              · obtain rfl : t = idx := by omega
                obtain rfl : t = N := by omega
                have hfd : decide (t < t) = false := decide_eq_false (by omega)
                have HNEW := Lib.hid (HNEWF.out (fun hn => by have h1 := hn.1; have h2 := HVN.out; have h3 := HNL.out; omega))
                go_wp2
                go_quiet (fail)
                go_wp2_with fail
                go_quiet (fail)
                have HW5 := Lib.hid (fun n => below_dN HBt.out n)
                have HWS := Lib.hid HBt.out.size
                by_cases hcl : t < cv
                · have hce : ¬ cv = t := by omega
                  go_wp2_with (first
                    | (at_builtin; refine wpList_appGS rfl (.tmp 105) (.tmp 108) 34 25 (.slice none 0 0) 24 Try.underlying34 infoL (by omega) rfl rfl w4.heap.size _ _ [] (vs.take t) rfl rfl ((rg_empty _ _).mono HWS.out) (srcG_take ((HFV.out _ (Below.alloc (HW5.out _) (HW5.out _).size _)).row) t _ HIL.out) (fun q hq => HONE.out q (by first | exact List.mem_of_mem_take hq | (simp at hq))) (by have := HLB.out; simp <;> omega) (by have := HWS.out; simp <;> omega) ?_; intro v1 w5 hr5 hg5 hb5; have R5 := Lib.hid hr5; have B5 := Lib.hid ((Below.alloc (HW5.out _) (HW5.out _).size _).trans hb5); have Z5 := Lib.hid B5.out.size; clear hr5 hg5 hb5)
                    | (at_builtin; refine wpList_appG rfl (.tmp 109) (.tmp 111) _ 25 (.slice none 0 0) 24 Try.underlying34 infoL (by omega) rfl rfl w4.heap.size w4.heap.size _ _ ([] ++ (vs.take t)) [.slice (some ⟨gu, 0, none⟩) P cu] rfl rfl (R5.out.alloc _) (Rg.lit _ _ _ _ Z5.out) (by simp [Value.oneCell']) (by have := HLB.out; simp <;> omega) (Nat.le_trans Z5.out (by simp)) ?_; intro v2 w6 hr6 hg6 hb6; have R6 := Lib.hid hr6; have B6 := Lib.hid ((B5.out.alloc B5.out.size _).trans hb6); have Z6 := Lib.hid B6.out.size; clear hr6 hg6 hb6)
                    | (at_builtin; refine wpList_appGS rfl (.tmp 113) (.tmp 116) 34 25 (.slice none 0 0) 24 Try.underlying34 infoL (by omega) rfl rfl w4.heap.size _ _ _ (vs.drop t) rfl rfl R6.out (srcG_drop ((HFV.out _ B6.out).row) t _ _ _ HIL.out (fun h => by have h9 := HNL.out; first | rfl | omega) (by have := HNL.out; omega)) (fun q hq => HONE.out q (by first | exact List.mem_of_mem_drop hq | (simp at hq))) (by have := HLB.out; simp <;> omega) Z6.out ?_; intro v3 w7 hr7 hg7 hb7; have R7 := Lib.hid hr7; have B7 := Lib.hid (B6.out.trans hb7); clear hr7 hg7 hb7))
                  have HIN7 := Lib.hid (LLi.ins (v' := v3) (i := t) HV4.out HIL.out HU4.out HA4.out B7.out (R7.out.mono HZ4.out))
                  have HF7 := Lib.hid (HFIN.out _ B7.out)
                  go_roundw
                  case rel => exact ⟨k + 1, _, ((vs.take t) ++ [.slice (some ⟨gu, 0, none⟩) P cu] ++ (vs.drop t)), by omega, by go_num, Lib.hid HNEW.out, HIN7.out, HF7.out⟩
                  case measure => simp [intOf]; omega
                · obtain rfl : cv = t := by omega
                  go_wp2_with (first
                    | (at_builtin; refine wpList_appGS rfl (.tmp 105) (.tmp 108) 34 25 (.slice none 0 0) 24 Try.underlying34 infoL (by omega) rfl rfl w4.heap.size _ _ [] (vs.take cv) rfl rfl ((rg_empty _ _).mono HWS.out) (srcG_take ((HFV.out _ (Below.alloc (HW5.out _) (HW5.out _).size _)).row) cv _ HIL.out) (fun q hq => HONE.out q (by first | exact List.mem_of_mem_take hq | (simp at hq))) (by have := HLB.out; simp <;> omega) (by have := HWS.out; simp <;> omega) ?_; intro v1 w5 hr5 hg5 hb5; have R5 := Lib.hid hr5; have B5 := Lib.hid ((Below.alloc (HW5.out _) (HW5.out _).size _).trans hb5); have Z5 := Lib.hid B5.out.size; clear hr5 hg5 hb5)
                    | (at_builtin; refine wpList_appG rfl (.tmp 109) (.tmp 111) _ 25 (.slice none 0 0) 24 Try.underlying34 infoL (by omega) rfl rfl w4.heap.size w4.heap.size _ _ ([] ++ (vs.take cv)) [.slice (some ⟨gu, 0, none⟩) P cu] rfl rfl (R5.out.alloc _) (Rg.lit _ _ _ _ Z5.out) (by simp [Value.oneCell']) (by have := HLB.out; simp <;> omega) (Nat.le_trans Z5.out (by simp)) ?_; intro v2 w6 hr6 hg6 hb6; have R6 := Lib.hid hr6; have B6 := Lib.hid ((B5.out.alloc B5.out.size _).trans hb6); have Z6 := Lib.hid B6.out.size; clear hr6 hg6 hb6)
                    | (at_builtin; refine wpList_appGS rfl (.tmp 113) (.tmp 116) 34 25 (.slice none 0 0) 24 Try.underlying34 infoL (by omega) rfl rfl w4.heap.size _ _ _ (vs.drop cv) rfl rfl R6.out (srcG_drop ((HFV.out _ B6.out).row) cv _ _ _ HIL.out (fun h => by have h9 := HNL.out; first | rfl | omega) (by have := HNL.out; omega)) (fun q hq => HONE.out q (by first | exact List.mem_of_mem_drop hq | (simp at hq))) (by have := HLB.out; simp <;> omega) Z6.out ?_; intro v3 w7 hr7 hg7 hb7; have R7 := Lib.hid hr7; have B7 := Lib.hid (B6.out.trans hb7); clear hr7 hg7 hb7))
                  have HIN7 := Lib.hid (LLi.ins (v' := v3) (i := cv) HV4.out HIL.out HU4.out HA4.out B7.out (R7.out.mono HZ4.out))
                  have HF7 := Lib.hid (HFIN.out _ B7.out)
                  go_roundw
                  case rel => exact ⟨k + 1, _, ((vs.take cv) ++ [.slice (some ⟨gu, 0, none⟩) P cu] ++ (vs.drop cv)), by omega, by go_num, Lib.hid HNEW.out, HIN7.out, HF7.out⟩
                  case measure => simp [intOf]; omega
    · obtain rfl : k = M := by omega
      go_wp2
      go_ret2
      exact ⟨_, vs, by rw [HO.out]; rfl, by rw [HO.out]; exact HV.out, HB.out⟩

end Go.Proofs.Ytbgnieajeipllaa
