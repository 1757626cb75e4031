/-
  The program's cycles, walked.
-/
import Derived.Test.YtejehmplebjnmaaFE
namespace Go.Proofs.Ytejehmplebjnmaa
open Go.RowKit
set_option linter.unusedVariables false
set_option linter.unusedSimpArgs false
set_option maxRecDepth 100000

theorem LLv.app {w w' : World} {B D : Nat} {v u : Value} {vs : List Value} {ls : List (List Nat)} {xs : List Int} {o : Obj} (h : LLv w B v vs ls) (hu : Rd (w.alloc o) D u xs) (hD : ∀ (i : Nat) (z : Value), vs[i]? = some z → ∀ q, z.ownBlock = some q → q < D) (hg : (w.alloc o).grownBy w' u.ownBlock) : LLv w' B v vs ls := by
  refine (h.alloc o).grown hg (row_not_rd hu (h.alloc o).row) fun i z hz => ?_
  cases hq : z.ownBlock with
  | none => exact .inl rfl
  | some q =>
    right
    intro e
    have h1 := hD i z hz q hq
    have h2 := (hu.lt q e.symm).1
    omega

theorem LLv.put {w w' : World} {B n b : Nat} {v : Value} {vs : List Value} {ls : List (List Nat)} {s : Nat → Bool} (h : LLv w B v vs ls) (hs : St w n b s) (hg : w.grownBy w' (some b)) : LLv w' B v vs ls := by
  refine h.grown hg ?_ fun i z hz => ?_
  · exact .inr (fun e => row_not_set h.row hs e.symm)
  · obtain ⟨l, _, hr⟩ := h.rd hz
    exact .inr (fun e => rd_not_set hr hs e.symm)

theorem LLv.far {w : World} {D : Nat} {u : Value} {vs : List Value} {xs : List Int} {i : Nat} {z : Value} (hD : ∀ (i : Nat) (z : Value), vs[i]? = some z → ∀ q, z.ownBlock = some q → q < D) (hu : Rd w D u xs) (hi : vs[i]? = some z) : z.ownBlock = none ∨ z.ownBlock ≠ u.ownBlock := by
  cases hq : z.ownBlock with
  | none => exact .inl rfl
  | some q =>
    right
    intro e
    have h1 := hD i z hi q hq
    have h2 := (hu.lt q e.symm).1
    omega

theorem cycles_any (g n cap : Nat) (f : Nat → Nat) (w : World) (h : Mg w g n f) :
    Calls Try.prog 71 #[.slice (some ⟨g, 0, none⟩) n cap] w fun e w' => ∃ v vs, e = .returned v ∧ LLv w' w.heap.size v vs (cycs f n) ∧ Below w.heap.size w w' := by
  have H := Lib.hid h
  have h0 := h.n0
  have h1 := h.n1
  clear h
  go_enter Try.func71, Try.ntmps71
  go_wp2_with fail
  refine (onCycles_any g n cap f _ H.out).mono ?_
  rintro e w1 ⟨b, rfl, hCb, hs, hb⟩
  have HS1 := Lib.hid hs
  have HB1 := Lib.hid hb
  clear hs hb
  go_wp2
  go_loopw [3, 12] (fun v i wr => ∃ (k : Nat) (vs : List Value), k ≤ n ∧ i = .int .i64 k ∧ LLv wr w.heap.size v vs (cycsTo f n k) ∧ St wr n b (leftB f n k) ∧ Below w.heap.size w wr) (fun _ i _ => n - (intOf i).toNat)
  case atStart => exact ⟨0, [], Nat.zero_le _, rfl, LLv.nil _ _, HS1.out.congr (fun x _ => by simp [leftB, seenB_zero]), HB1.out⟩
  case round =>
    rename World => wa
    obtain ⟨k, vs, hk, rfl, hv, hs, hb⟩ := hrel
    have HV := Lib.hid hv
    have HS := Lib.hid hs
    have HB := Lib.hid hb
    clear hv hs hb
    by_cases hlt : k < n
    · have hlead := lead_seen (x := k) H.out.into
      cases hl : lead f n k
      · have hq : leftB f n k k = false := by rw [← hl, hlead]; rfl
        have HE := Lib.hid (fun y => leftB_skip H.out.into hlt hl y)
        have HC := Lib.hid (show cycsTo f n (k + 1) = cycsTo f n k by rw [cycsTo_succ, if_neg (by rw [hl]; simp)])
        clear hl hlead
        go_wp2_with (at_lookup; refine wpList_lookS rfl _ _ rfl n b _ k rfl rfl HS.out hlt h1 ?_; rw [hq])
        go_roundw
        case rel => exact ⟨k + 1, vs, by omega, by go_num, by rw [HC.out]; exact HV.out, HS.out.congr (fun x _ => HE.out x), HB.out⟩
        case measure => simp [intOf]; omega
      · have hq : leftB f n k k = true := by rw [← hl, hlead]; rfl
        have hck := ((lead_iff H.out.into).1 hl).1
        have HLD := Lib.hid hl
        have HCK := Lib.hid hck
        have HP := Lib.hid (per_spec H.out.into hck)
        obtain ⟨p, hp⟩ : ∃ p, p = per f n k := ⟨_, rfl⟩
        rw [← hp] at HP
        have HPE := Lib.hid hp
        have hp1 := HP.out.1
        have hp2 := HP.out.2.1
        have HC := Lib.hid (show cycsTo f n (k + 1) = cycsTo f n k ++ [rnd f n k] by rw [cycsTo_succ, if_pos hl])
        have HR0 := Lib.hid (show rnd f n k = (List.range p).map fun i => it f i k by unfold rnd; rw [hp])
        have HVL := Lib.hid (fun (i : Nat) (u : Value) (hi : vs[i]? = some u) => let ⟨l, _, hr⟩ := HV.out.rd hi; fun q hq => (hr.lt q hq).2)
        have HBb := Lib.hid hCb
        clear hl hlead hck hp
        go_wp2_with (at_lookup; refine wpList_lookS rfl _ _ rfl n b _ k rfl rfl HS.out hlt h1 ?_; rw [hq])
        go_loopw [6, 7] (fun u y wr => ∃ (j : Nat), j ≤ p ∧ y = .int .i64 ((it f j k : Nat) : Int) ∧ Rd wr wa.heap.size u (nts ((List.range j).map fun i => it f i k)) ∧ St wr n b (leftJ f n k j) ∧ LLv wr w.heap.size u3 vs (cycsTo f n k) ∧ Below w.heap.size w wr ∧ wa.heap.size ≤ wr.heap.size ∧ lenOf u = j) (fun u _ _ => p - lenOf u)
        case atStart => exact ⟨0, Nat.zero_le _, rfl, Rd.nil _ _, by rw [leftJ_zero]; exact HS.out, HV.out, HB.out, Nat.le_refl _, rfl⟩
        case round =>
          obtain ⟨j, hj, rfl, hr, hs, hv, hb, hz, hlen⟩ := hrel
          have HRj := Lib.hid hr
          have HSj := Lib.hid hs
          have HVj := Lib.hid hv
          have HBj := Lib.hid hb
          have HZ := Lib.hid hz
          have HLN := Lib.hid hlen
          have HWA := Lib.hid HB.out.size
          clear hr hs hv hb hz hlen
          have hy := it_lt H.out.into j hlt
          obtain ⟨y, hyy⟩ : ∃ y, y = it f j k := ⟨_, rfl⟩
          have HY := Lib.hid hyy
          rw [← hyy] at hy ⊢
          clear hyy
          by_cases hjp : j < p
          · have hq2 : leftJ f n k j y = true := by rw [HY.out]; exact leftJ_yes H.out.into HLD.out (by rw [← HPE.out]; exact hjp)
            go_wp2_with (first | (at_lookup; refine wpList_lookS rfl _ _ rfl n b _ y rfl rfl HSj.out hy h1 ?_; rw [hq2]) | (at_builtin; refine wpList_appR rfl _ _ rfl wa.heap.size wa.heap.size _ _ (nts ((List.range j).map fun i => it f i k)) [(y : Int)] rfl rfl (HRj.out.alloc _) (Rd.litB _ _ _ HZ.out) (by rw [nts_len]; simp; omega) (by have := HZ.out; simp; omega) ?_; intro v1 w3 hr3 hg3 hb3; have HR3 := Lib.hid hr3); have HS3 := Lib.hid ((HSj.out.alloc (.cells #[.int .i64 (y : Int)] 3)).kept hg3 (rd_not_set (HRj.out.alloc (.cells #[.int .i64 (y : Int)] 3)) (HSj.out.alloc (.cells #[.int .i64 (y : Int)] 3)))); have HV3 := Lib.hid (LLv.app HVj.out (HRj.out.alloc (.cells #[.int .i64 (y : Int)] 3)) HVL.out hg3); have HB3 := Lib.hid ((HBj.out.alloc HBj.out.size _).trans (hb3.mono HWA.out)); have HZ3 := Lib.hid (Nat.le_trans HZ.out (Nat.le_trans (Nat.le_of_lt (by simp)) hg3.size)); clear hr3 hg3 hb3 | (at_delete; refine wpList_delS rfl _ _ rfl n b _ y rfl rfl HS3.out hy h1 ?_; intro w4 hs4 hg4; have hcell := (H.out.keep (HB3.out.grown hg4 HB3.out.size (fun q hq => by cases hq; exact HBb.out))).cell y hy))
            have HR4 := Lib.hid (HR3.out.grown hg4 (.inr (fun e => rd_not_set HR3.out HS3.out e.symm)))
            have HS4 := Lib.hid (leftJ_step f n k j ▸ HY.out ▸ hs4)
            have HV4 := Lib.hid (HV3.out.put HS3.out hg4)
            have HB4 := Lib.hid (HB3.out.grown hg4 HB3.out.size (fun q hq => by cases hq; exact HBb.out))
            have HZ4 := Lib.hid (Nat.le_trans HZ3.out hg4.size)
            have HL4 := Lib.hid (lenOf_rd HR3.out)
            have HTK := Lib.hid (rnd_take f k j)
            clear hs4 hg4
            go_wp2
            go_roundw
            case rel => exact ⟨j + 1, by omega, by rw [HY.out]; rfl, by rw [HTK.out, ← HY.out]; exact HR4.out, HS4.out, HV4.out, HB4.out, HZ4.out, by rw [HL4.out]; simp [nts]⟩
            case measure => rw [HL4.out, HLN.out]; simp [nts]; omega
          · obtain rfl : j = p := by omega
            have hq2 : leftJ f n k j y = false := by rw [HY.out, HPE.out]; exact leftJ_no H.out.into HCK.out
            have HJE := Lib.hid (show ∀ z, leftJ f n k j z = leftB f n (k + 1) z from fun z => by rw [HPE.out]; exact leftJ_end H.out.into hlt HCK.out z)
            have hnl : (nts ((List.range j).map fun i => it f i k)).length = j := by simp [nts]
            obtain ⟨gu, cu, hu⟩ : ∃ gu cu, u6 = .slice (some ⟨gu, 0, none⟩) j cu := by
              rcases HRj.out.cases with ⟨_, hx⟩ | ⟨gu, cu, hu, _⟩
              · rw [hx] at hnl; simp at hnl; omega
              · rw [hnl] at hu; exact ⟨gu, cu, hu⟩
            subst hu
            clear hnl
            have HVL2 := Lib.hid (show vs.length ≤ 40000 by have h2 := cycsTo_len f n k; rw [← HVj.out.len] at h2; omega)
            go_wp2_with (first | (at_lookup; refine wpList_lookS rfl _ _ rfl n b _ y rfl rfl HSj.out hy h1 ?_; rw [hq2]) | (at_builtin; refine wpList_appG rfl _ _ _ 25 (.slice none 0 0) 24 Try.underlying34 infoL (by omega) rfl rfl w.heap.size w.heap.size u3 _ vs [.slice (some ⟨gu, 0, none⟩) j cu] rfl rfl (HVj.out.row.alloc _) (Rg.lit _ _ _ _ HBj.out.size) (by simp [Value.oneCell']) (by have := HVL2.out; simp; omega) (by have := HBj.out.size; simp; omega) ?_; intro v1 w3 hr3 hg3 hb3))
            have HV3 := Lib.hid (HVj.out.snoc (o := .cells #[.slice (some ⟨gu, 0, none⟩) j cu] 25) (HRj.out.mono HWA.out) (fun i z hi => LLv.far HVL.out HRj.out hi) hr3 hg3)
            have HS3 := Lib.hid (((HSj.out.congr (t := leftB f n (k + 1)) (fun z _ => HJE.out z)).alloc (.cells #[.slice (some ⟨gu, 0, none⟩) j cu] 25)).kept hg3 (row_not_set HVj.out.row HSj.out))
            have HB3 := Lib.hid ((HBj.out.alloc HBj.out.size _).trans hb3)
            clear hr3 hg3 hb3
            go_wp2
            go_roundw
            case rel => exact ⟨k + 1, _, by omega, by go_num, by rw [HC.out, HR0.out]; exact HV3.out, HS3.out, HB3.out⟩
            case measure => simp [intOf]; omega
    · obtain rfl : k = n := by omega
      go_wp2
      go_ret
      exact ⟨_, vs, rfl, HV.out, HB.out⟩

end Go.Proofs.Ytejehmplebjnmaa
