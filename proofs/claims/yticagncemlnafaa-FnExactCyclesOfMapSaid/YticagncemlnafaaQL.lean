/-
  Answers of CyclesOfMap, and its law.
-/
import Derived.Test.YticagncemlnafaaQS
import Derived.Test.YticagncemlnafaaPT
namespace Go.Proofs.Yticagncemlnafaa
open Go.RowKit
set_option linter.unusedVariables false
set_option linter.unusedSimpArgs false
set_option maxRecDepth 100000

def OK_CyclesOfMap (xs : List Int) : Bool := goodM xs
def LF_CyclesOfMap (xs : List Int) : List (List Nat) := if goodM xs = true then cycs (fnO xs) xs.length else []

theorem ask_cycles (v : Value) (xs : List Int) (B : Nat) (w : World) (h : Rd w B v xs) (hl : xs.length ≤ 1048576) :
    Calls Try.prog 72 #[v, .func (Fn.func 68) #[] #[]] w fun e w' => ∃ u vs, e = .returned (.tuple #[u, .bool (OK_CyclesOfMap xs)]) ∧ LLv w' w.heap.size u vs (LF_CyclesOfMap xs) ∧ Below w.heap.size w w' := by
  have H := Lib.hid h
  cases q1 : goodM xs
  · have HO := Lib.hid (show OK_CyclesOfMap xs = false from q1)
    have HL := Lib.hid (show LF_CyclesOfMap xs = [] by unfold LF_CyclesOfMap; rw [q1]; rfl)
    clear h
    go_enter Try.func72, Try.ntmps72
    go_wp2_with (go_at_call 21; refine (IsMap_any _ xs _ _ H.out (by omega)).mono ?_; rw [q1]; rintro e w1 ⟨rfl, rfl⟩)
    go_ret2
    exact ⟨_, [], by rw [HO.out]; rfl, by rw [HL.out]; exact LLv.nil _ _, Below.refl _ _⟩
  · obtain ⟨g, n, cap, f, rfl, hm, hn, hf, hxs, _⟩ := h.good q1
    have HM := Lib.hid hm
    have HO := Lib.hid (show OK_CyclesOfMap xs = true from q1)
    have HL := Lib.hid (show LF_CyclesOfMap xs = cycs f n by unfold LF_CyclesOfMap; rw [if_pos q1, ← hf, ← hn])
    have HX := Lib.hid hl
    clear h hm hn hf hxs hl
    go_enter Try.func72, Try.ntmps72
    go_wp2_with (first | (go_at_call 21; refine (IsMap_any _ xs _ _ H.out (by have := HX.out; omega)).mono ?_; rw [q1]; rintro e w1 ⟨rfl, rfl⟩) | (go_at_call 68; refine (cycles_any g n cap f _ HM.out).mono ?_; rintro e w1 ⟨u, vs, rfl, hv, hb⟩; have HV := Lib.hid hv; have HB := Lib.hid hb; clear hv hb))
    go_ret2
    exact ⟨_, vs, by rw [HO.out]; rfl, by rw [HL.out]; exact HV.out, HB.out⟩

theorem impl_CyclesOfMap (v : Value) (xs : List Int) (B : Nat) (w : World) (h : Rd w B v xs) (hl : xs.length ≤ 1048576) :
    Calls Try.prog 28 #[v] w fun e w' => ∃ u vs, e = .returned (.tuple #[u, .bool (OK_CyclesOfMap xs)]) ∧ LLv w' w.heap.size u vs (LF_CyclesOfMap xs) ∧ Below w.heap.size w w' := by
  have H := Lib.hid h
  clear h
  go_enter Try.func28, Try.ntmps28
  go_wp2_with (go_at_call 72; refine (ask_cycles _ xs _ _ H.out hl).mono ?_; rintro e w1 ⟨u, vs, rfl, hv, hb⟩; have HV := Lib.hid hv; have HB := Lib.hid hb; clear hv hb)
  go_ret2
  exact ⟨_, vs, rfl, HV.out, HB.out⟩

theorem spec_CyclesOfMap (v : Value) (xs : List Int) (B : Nat) (w : World) (h : Rd w B v xs) (hl : xs.length ≤ 1048576) :
    Calls Try.prog 27 #[v] w fun e w' => ∃ u vs, e = .returned (.tuple #[u, .bool (OK_CyclesOfMap xs)]) ∧ LLv w' w.heap.size u vs (LF_CyclesOfMap xs) ∧ Below w.heap.size w w' := by
  have H := Lib.hid h
  cases q1 : goodM xs
  · have HO := Lib.hid (show OK_CyclesOfMap xs = false from q1)
    have HL := Lib.hid (show LF_CyclesOfMap xs = [] by unfold LF_CyclesOfMap; rw [q1]; rfl)
    clear h
    go_enter Try.func27, Try.ntmps27
    go_wp2_with (go_at_call 58; refine (mpGood_any _ xs _ _ H.out (by omega)).mono ?_; rw [q1]; rintro e w1 ⟨rfl, rfl⟩)
    go_ret2
    exact ⟨_, [], by rw [HO.out]; rfl, by rw [HL.out]; exact LLv.nil _ _, Below.refl _ _⟩
  · obtain ⟨g, n, cap, f, rfl, hm, hn, hf, hxs, _⟩ := h.good q1
    have HM := Lib.hid hm
    have HO := Lib.hid (show OK_CyclesOfMap xs = true from q1)
    have HL := Lib.hid (show LF_CyclesOfMap xs = cycs f n by unfold LF_CyclesOfMap; rw [if_pos q1, ← hf, ← hn])
    have HX := Lib.hid hl
    clear h hm hn hf hxs hl
    go_enter Try.func27, Try.ntmps27
    go_wp2_with (first | (go_at_call 58; refine (mpGood_any _ xs _ _ H.out (by have := HX.out; omega)).mono ?_; rw [q1]; rintro e w1 ⟨rfl, rfl⟩) | (go_at_call 71; refine (mpCycles_any g n cap f _ HM.out).mono ?_; rintro e w1 ⟨u, vs, rfl, hv, hb⟩; have HV := Lib.hid hv; have HB := Lib.hid hb; clear hv hb))
    go_ret2
    exact ⟨_, vs, by rw [HO.out]; rfl, by rw [HL.out]; exact HV.out, HB.out⟩

theorem LF_CyclesOfMap_bd (xs : List Int) : (LF_CyclesOfMap xs).length ≤ 60 ∧ ∀ i, (lsZ (LF_CyclesOfMap xs) i).length ≤ 60 := by
  unfold LF_CyclesOfMap
  split
  · rename_i hq
    obtain ⟨hc, h1, h2, h3⟩ := good_can hq
    have hle := cycsTo_len (fnO xs) xs.length xs.length
    refine ⟨by unfold cycs; omega, fun i => ?_⟩
    unfold lsZ
    rw [nts_len, List.getD_eq_getElem?_getD]
    cases hi : (cycs (fnO xs) xs.length)[i]? with
    | none => simp
    | some l =>
      obtain ⟨x, _, rfl, lx, _⟩ := cycs_get hi
      rw [Option.getD_some, rnd_len]
      have := (per_spec h3 ((lead_iff h3).1 lx).1).2.1
      omega
  · exact ⟨by simp, fun i => by simp [lsZ, nts]⟩

theorem offZ_bd {Z : Nat → List Int} (h : ∀ i, (Z i).length ≤ 60) : ∀ i, i ≤ 60 → 0 ≤ offZ 1 Z i ∧ offZ 1 Z i ≤ 1 + 60 * i
  | 0, _ => by simp [offZ]
  | i + 1, hi => by
    have := offZ_bd h i (by omega)
    have := h i
    simp only [offZ]
    push_cast
    omega

theorem law_CyclesOfMap {W : World} (v0 : Value) (xs0 : List Int) (hs0 : Sl W v0 xs0) :
    Calls Try.prog 6 #[v0] W fun e w' => e = .returned (.bool true) ∧ Below W.heap.size W w' := by
  obtain ⟨b0, cap0, rfl⟩ := hs0.len
  have HS0 := Lib.hid hs0
  clear hs0
  by_cases hl0 : xs0.length ≤ 1048576
  · obtain ⟨ls, hxs⟩ : ∃ ls, ls = LF_CyclesOfMap xs0 := ⟨_, rfl⟩
    have HX := Lib.hid hxs
    have HBD := Lib.hid (LF_CyclesOfMap_bd xs0)
    rw [← hxs] at HBD
    have HZ := Lib.hid (show ∀ i, (lsZ ls i).length ≤ 2000000 from fun i => Nat.le_trans (HBD.out.2 i) (by omega))
    have hln := HBD.out.1
    have HOF := Lib.hid (show ∀ i, i ≤ ls.length → 0 ≤ offZ 1 (lsZ ls) i ∧ offZ 1 (lsZ ls) i ≤ 1000000 from fun i hi => by have := offZ_bd HBD.out.2 i (by omega); omega)
    clear hxs
    go_enter Try.func6, Try.ntmps6
    go_wp2_with fail
    refine (toIntS_any _ _ _ HS0.out (by omega)).mono ?_
    rintro e w1 ⟨u1, rfl, hr, hb⟩
    have R1 := Lib.hid hr
    have B1 := Lib.hid hb
    clear hr hb
    go_wp2_with fail
    refine (spec_CyclesOfMap _ xs0 _ _ R1.out hl0).mono ?_
    rintro e w2 ⟨v2, vs2, rfl, hv, hb⟩
    rw [← HX.out] at hv
    have N2 := Lib.hid hv.len
    have L2 := Lib.hid (hv.f.mono B1.out.size)
    have B2 := Lib.hid (Below.step B1.out B1.out.size hb)
    clear hv hb
    go_wp2_with fail
    refine (toIntS_any _ _ _ (HS0.out.keep B2.out) (by omega)).mono ?_
    rintro e w3 ⟨u3, rfl, hr, hb⟩
    have A3 := Lib.hid (fun (i : Nat) (u : Value) (hu : vs2[i]? = some u) => Rd.apart (fun k hk => ((L2.out.at' i u hu).lt k hk).2) hr)
    have L3 := Lib.hid (L2.out.keep hb)
    have R3 := Lib.hid (hr.mono B2.out.size)
    have B3 := Lib.hid (Below.step B2.out B2.out.size hb)
    clear hr hb
    go_wp2_with fail
    refine (impl_CyclesOfMap _ xs0 _ _ R3.out hl0).mono ?_
    rintro e w4 ⟨v4, vs4, rfl, hv, hb⟩
    rw [← HX.out] at hv
    have N4 := Lib.hid hv.len
    have G4 := Lib.hid hv.f
    have U4 := Lib.hid L3.out.und
    have A4 := Lib.hid (fun (i : Nat) (u : Value) (hu : vs4[i]? = some u) => apart_symm (Rd.apart (fun k hk => (R3.out.lt k hk).2) (hv.f.at' i u hu)))
    have L4 := Lib.hid (L3.out.keep hb)
    have R4 := Lib.hid (R3.out.keep hb)
    have B4 := Lib.hid (Below.step B3.out B3.out.size hb)
    have S4 := Lib.hid hb.size
    clear hv hb
    go_wp2_with fail
    refine (eqIntSS_same _ _ vs4 vs2 (lsZ ls) _ _ _ G4.out L4.out (by rw [N4.out, N2.out]) (by rw [N4.out]; exact hln) HZ.out).mono ?_
    rintro e w5 ⟨rfl, hb⟩
    have L5 := Lib.hid (L4.out.keep hb)
    have G5 := Lib.hid (G4.out.keep hb)
    have R5 := Lib.hid (R4.out.keep hb)
    have B5 := Lib.hid (Below.step B4.out B4.out.size hb)
    have S5 := Lib.hid hb.size
    clear hb
    go_wp2_with fail
    refine (toIntS_any _ _ _ (HS0.out.keep B5.out) (by omega)).mono ?_
    rintro e w6 ⟨u6, rfl, hr, hb⟩
    have T6 := Lib.hid hr
    have L6 := Lib.hid (L5.out.keep hb)
    have G6 := Lib.hid (G5.out.keep hb)
    have R6 := Lib.hid (R5.out.keep hb)
    have B6 := Lib.hid (Below.step B5.out B5.out.size hb)
    have S6 := Lib.hid hb.size
    clear hr hb
    go_wp2_with fail
    refine (eqIntS_any _ _ xs0 xs0 _ R6.out.sl T6.out.sl (by omega) (by omega)).mono ?_
    rintro e w7 ⟨rfl, hb⟩
    have L7 := Lib.hid (L6.out.keep hb)
    have G7 := Lib.hid (G6.out.keep hb)
    have R7 := Lib.hid (R6.out.keep hb)
    have B7 := Lib.hid (Below.step B6.out B6.out.size hb)
    have S7 := Lib.hid hb.size
    clear hb
    go_wp2_with fail
    refine (markIntS_any _ xs0 _ _ _ R7.out B7.out.size (by omega) (by omega) (by omega)).mono ?_
    rintro e w8 ⟨rfl, hr, hg⟩
    have L8 := Lib.hid (L7.out.grownR R7.out hg A3.out)
    have G8 := Lib.hid (G7.out.grownR R7.out hg A4.out)
    have B8 := Lib.hid (B7.out.grown hg B7.out.size (fun k hk => (R7.out.lt k hk).1))
    have Z8 := Lib.hid (show w3.heap.size ≤ w8.heap.size by have := S4.out; have := S5.out; have := S6.out; have := S7.out; have := hg.size; omega)
    clear hr hg
    go_wp2_with fail
    refine (eqIntSS_same _ _ vs4 vs2 (lsZ ls) _ _ _ G8.out L8.out (by rw [N4.out, N2.out]) (by rw [N4.out]; exact hln) HZ.out).mono ?_
    rintro e w9 ⟨rfl, hb⟩
    have L9 := Lib.hid (L8.out.keep hb)
    have G9 := Lib.hid (G8.out.keep hb)
    have B9 := Lib.hid (Below.step B8.out B8.out.size hb)
    have Z9 := Lib.hid (Nat.le_trans Z8.out hb.size)
    clear hb
    go_wp2_with fail
    refine (markIntSS_any _ vs4 (lsZ ls) 1 _ _ G9.out Z9.out (by rw [N4.out]; exact hln) HZ.out (by rw [N4.out]; exact HOF.out)).mono ?_
    obtain ⟨o, hoo⟩ : ∃ o, o = offZ 1 (lsZ ls) vs4.length := ⟨_, rfl⟩
    have HOO := Lib.hid hoo
    have ho0 : 0 ≤ o := by rw [hoo, N4.out]; exact (HOF.out _ (Nat.le_refl _)).1
    rw [← hoo]
    clear hoo
    rintro e w10 ⟨rfl, hg, hb⟩
    have G10 := Lib.hid hg
    have L10 := Lib.hid (L9.out.keepU U4.out hb)
    have B10 := Lib.hid (B9.out.trans (hb.mono B3.out.size))
    clear hg hb
    go_wp2_with fail
    refine (heldIntSS_any _ vs4 (lsZ ls) 1 _ _ G10.out (by rw [N4.out]; exact hln) HZ.out (by rw [N4.out]; exact HOF.out)).mono ?_
    rw [← HOO.out]
    rintro e w11 ⟨rfl, rfl⟩
    go_wp2_with fail
    refine (toIntS_any _ _ _ (HS0.out.keep B10.out) (by omega)).mono ?_
    rintro e w12 ⟨u12, rfl, hr, hb⟩
    have T12 := Lib.hid hr
    have L12 := Lib.hid (L10.out.keep hb)
    have G12 := Lib.hid (G10.out.keep hb)
    have B12 := Lib.hid (Below.step B10.out B10.out.size hb)
    clear hr hb
    go_wp2_with fail
    refine (impl_CyclesOfMap _ xs0 _ _ T12.out hl0).mono ?_
    rintro e w13 ⟨v13, vs13, rfl, hv, hb⟩
    rw [← HX.out] at hv
    have N13 := Lib.hid hv.len
    have H13 := Lib.hid hv.f
    have L13 := Lib.hid (L12.out.keep hb)
    have G13 := Lib.hid (G12.out.keep hb)
    have B13 := Lib.hid (Below.step B12.out B12.out.size hb)
    clear hv hb
    go_wp2_with fail
    refine (eqIntSS_same _ _ vs13 vs2 (lsZ ls) _ _ _ H13.out L13.out (by rw [N13.out, N2.out]) (by rw [N13.out]; exact hln) HZ.out).mono ?_
    rintro e w14 ⟨rfl, hb⟩
    have G14 := Lib.hid (G13.out.keep hb)
    have B14 := Lib.hid (Below.step B13.out B13.out.size hb)
    clear hb
    go_wp2_with fail
    refine (heldIntSS_any _ vs4 (lsZ ls) 1 _ _ G14.out (by rw [N4.out]; exact hln) HZ.out (by rw [N4.out]; exact HOF.out)).mono ?_
    rw [← HOO.out]
    rintro e w15 ⟨rfl, rfl⟩
    go_wp2
    go_ret
    exact ⟨rfl, B14.out⟩
  · go_enter Try.func6, Try.ntmps6
    go_wp2
    go_ret
    exact ⟨rfl, Below.refl _ _⟩

end Go.Proofs.Yticagncemlnafaa
