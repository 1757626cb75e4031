/-
  The model's cycles, walked.
-/
import Derived.Test.YticagncemlnafaaPY
namespace Go.Proofs.Yticagncemlnafaa
open Go.RowKit
set_option linter.unusedVariables false
set_option linter.unusedSimpArgs false
set_option maxRecDepth 100000

/-- Seen before x, or among the first j numbers of its round. -/
def seenJ (f : Nat → Nat) (n x j y : Nat) : Bool := seenB f n x y || (List.range j).any fun i => it f i x == y
theorem seenJ_zero (f : Nat → Nat) (n x : Nat) : seenJ f n x 0 = seenB f n x := by funext y; simp [seenJ]
theorem seenJ_step (f : Nat → Nat) (n x j : Nat) : (fun y => if y = it f j x then true else seenJ f n x j y) = seenJ f n x (j + 1) := by
  funext y
  unfold seenJ
  rw [List.range_succ, List.any_append]
  by_cases e : y = it f j x
  · subst e; simp
  · have e' : (it f j x == y) = false := beq_eq_false_iff_ne.2 (fun h => e h.symm)
    simp [e, e']
theorem seenJ_end {f : Nat → Nat} {n x : Nat} (h : Into f n) (hx : x < n) (hc : cyc f n x = true) : seenJ f n x (per f n x) = seenB f n (x + 1) := by
  funext y
  rw [Bool.eq_iff_iff, seenB_succ h hx]
  unfold seenJ
  rw [Bool.or_eq_true, List.any_eq_true]
  constructor
  · rintro (h1 | ⟨i, hi, he⟩)
    · exact .inl h1
    · exact .inr ⟨hc, mem_rnd.2 ⟨i, List.mem_range.1 hi, beq_iff_eq.1 he⟩⟩
  · rintro (h1 | ⟨_, hm⟩)
    · exact .inl h1
    · obtain ⟨i, hi, he⟩ := mem_rnd.1 hm
      exact .inr ⟨i, List.mem_range.2 hi, beq_iff_eq.2 he⟩

/-- A store into a slice of bools leaves slices of slices alone. -/
theorem LLv.setB {w w' : World} {B C : Nat} {v b : Value} {vs : List Value} {ls : List (List Nat)} {bs : List Bool} (h : LLv w B v vs ls) (hb : Rb w C b bs) (hg : w.grownBy w' b.ownBlock) : LLv w' B v vs ls :=
  h.grown hg (rows_apart (by decide) h.row hb) fun i z hz => by
    obtain ⟨l, _, hr⟩ := h.rd hz
    exact rows_apart (by decide) (rd_rg hr) hb

theorem mpCycles_any (g n cap : Nat) (f : Nat → Nat) (w : World) (h : Mp w g n f) :
    Calls Try.prog 71 #[.slice (some ⟨g, 0, none⟩) n cap] w fun e w' => ∃ v vs, e = .returned v ∧ LLv w' w.heap.size v vs (cycs f n) ∧ Below w.heap.size w w' := by
  have H := Lib.hid h
  have h0 := h.n0
  have h1 := h.n1
  clear h
  go_enter Try.func71, Try.ntmps71
  go_wp2_with fail
  refine (mpCyclic_any g n cap f _ H.out).mono ?_
  rintro e w1 ⟨gc, rfl, hr, hb⟩
  have HC1 := Lib.hid (Rb.bp hr)
  have HB1 := Lib.hid hb
  clear hr hb
  go_wp2_with (at_make; refine wpList_mkG rfl _ _ _ 4 (.bool false) 1 Try.underlying53 infoB (by omega) rfl rfl .i64 .i64 _ _ n rfl rfl rfl rfl (by omega) ?_; intro w2 hr2 hg2 hb2)
  rw [bls_rep] at hr2
  have HS2 := Lib.hid hr2
  have HC2 := Lib.hid (HC1.out.keep hb2)
  have HB2 := Lib.hid (Below.step HB1.out HB1.out.size hb2)
  have HZ2 := Lib.hid (show w1.heap.size < w2.heap.size from (hr2.lt w1.heap.size rfl).2)
  have HBm := Lib.hid hb2
  clear hr2 hg2 hb2
  go_loopw [5, 17] (fun v i wr => ∃ (k : Nat) (vs : List Value), k ≤ n ∧ i = .int .i64 k ∧ LLv wr w2.heap.size v vs (cycsTo f n k) ∧ Rb wr w1.heap.size (.slice (some ⟨w1.heap.size, 0, none⟩) n n) (bls n (seenB f n k)) ∧ Below w1.heap.size w1 wr ∧ w2.heap.size ≤ wr.heap.size) (fun _ i _ => n - (intOf i).toNat)
  case atStart => exact ⟨0, [], Nat.zero_le _, rfl, LLv.nil _ _, by rw [bls_congr (fun x _ => seenB_zero f n x)]; exact HS2.out, HBm.out, Nat.le_refl _⟩
  case round =>
    rename World => wa
    obtain ⟨k, vs, hk, rfl, hv, hs, hb, hz⟩ := hrel
    have HV := Lib.hid hv
    have HS := Lib.hid hs
    have HB := Lib.hid hb
    have HBw := Lib.hid (Below.step HB1.out HB1.out.size hb)
    have HZ := Lib.hid hz
    clear hv hs hb hz
    by_cases hlt : k < n
    · have hlead := lead_seen (x := k) H.out.into
      have hcc := (HC1.out.keep HB.out).cell k hlt
      have hcs := (Rb.bp HS.out).cell k hlt
      cases hl : lead f n k
      · have HE := Lib.hid (bls_congr (n := n) (s := seenB f n (k + 1)) (t := seenB f n k) (fun y _ => seenB_skip H.out.into hlt hl))
        have HC := Lib.hid (show cycsTo f n (k + 1) = cycsTo f n k by rw [cycsTo_succ, if_neg (by rw [hl]; simp)])
        rw [hl] at hlead
        cases hc : cyc f n k
        · rw [hc] at hcc
          clear hl hlead hc
          go_wp2
          go_roundw
          case rel => exact ⟨k + 1, vs, by omega, by go_num, by rw [HC.out]; exact HV.out, by rw [HE.out]; exact HS.out, HB.out, HZ.out⟩
          case measure => simp [intOf]; omega
        · have hsn : seenB f n k k = true := by rw [hc] at hlead; simpa using hlead
          rw [hc] at hcc
          rw [hsn] at hcs
          clear hl hlead hc hsn
          go_wp2
          go_roundw
          case rel => exact ⟨k + 1, vs, by omega, by go_num, by rw [HC.out]; exact HV.out, by rw [HE.out]; exact HS.out, HB.out, HZ.out⟩
          case measure => simp [intOf]; omega
      · rw [hl] at hlead
        obtain ⟨hc, hsn⟩ := Bool.and_eq_true_iff.1 hlead.symm
        have hsn' : seenB f n k k = false := by simpa using hsn
        rw [hc] at hcc
        rw [hsn'] at hcs
        have HCK := Lib.hid hc
        have HP := Lib.hid (per_spec H.out.into hc)
        have HC := Lib.hid (show cycsTo f n (k + 1) = cycsTo f n k ++ [rnd f n k] by rw [cycsTo_succ, if_pos hl])
        have HRL := Lib.hid (show (nts (rnd f n k)).length = per f n k by rw [nts_len, rnd_len])
        clear hl hlead hc hsn hsn'
        go_wp2_with fail
        refine (mpRound_any g n cap f k _ (H.out.keep HBw.out) HCK.out).mono ?_
        rintro e w3 ⟨u, rfl, hr, hb⟩
        obtain ⟨gu, cu, hu⟩ : ∃ gu cu, u = .slice (some ⟨gu, 0, none⟩) (per f n k) cu := by
          rcases hr.cases with ⟨_, hx⟩ | ⟨gu, cu, hu, _⟩
          · have h2 := HRL.out; have h3 := HP.out.1; rw [hx] at h2; simp at h2; omega
          · rw [HRL.out] at hu; exact ⟨gu, cu, hu⟩
        subst hu
        have HR3 := Lib.hid hr
        have HV3 := Lib.hid (HV.out.keep hb)
        have HS3 := Lib.hid (HS.out.keep hb)
        have HB3 := Lib.hid (Below.step HB.out HB.out.size hb)
        have HZ3 := Lib.hid (Nat.le_trans HZ.out hb.size)
        have HA3 := Lib.hid (fun (i : Nat) (z : Value) (hi : vs[i]? = some z) => let ⟨l, _, hz⟩ := HV.out.rd hi; Rd.apart (fun q hq => (hz.lt q hq).2) hr)
        clear hr hb
        obtain ⟨p, hp⟩ : ∃ p, p = per f n k := ⟨_, rfl⟩
        have HPE := Lib.hid hp
        rw [← hp] at HP HRL ⊢
        rw [← hp] at HR3
        have hp1 := HP.out.1
        have hp2 := HP.out.2.1
        clear hp
        go_wp2
        go_loopw [36] (fun i wr => ∃ j : Nat, j ≤ p ∧ i = .int .i64 j ∧ Rb wr w1.heap.size (.slice (some ⟨w1.heap.size, 0, none⟩) n n) (bls n (seenJ f n k j)) ∧ Rd wr wa.heap.size (.slice (some ⟨gu, 0, none⟩) p cu) (nts (rnd f n k)) ∧ LLv wr w2.heap.size u5 vs (cycsTo f n k) ∧ Below w1.heap.size w1 wr ∧ w2.heap.size ≤ wr.heap.size) (fun i _ => p - (intOf i).toNat)
        case atStart => exact ⟨0, Nat.zero_le _, rfl, by rw [seenJ_zero]; exact HS3.out, HR3.out, HV3.out, HB3.out, HZ3.out⟩
        case round =>
          obtain ⟨j, hj, rfl, hs, hr, hv, hb, hz⟩ := hrel
          have HSj := Lib.hid hs
          have HRj := Lib.hid hr
          have HVj := Lib.hid hv
          have HBj := Lib.hid hb
          have HZj := Lib.hid hz
          clear hs hr hv hb hz
          by_cases hjp : j < p
          · have hy := it_lt H.out.into j hlt
            obtain ⟨y, hyy⟩ : ∃ y, y = it f j k := ⟨_, rfl⟩
            have HY := Lib.hid hyy
            have hcell : wr.cell? ⟨gu, j, none⟩ = some (.int .i64 (y : Int)) := by
              rw [HRj.out.at.2.2.2.2.1 j (by rw [HRL.out]; exact hjp)]
              simp [nts, rnd, hyy]
            rw [← hyy] at hy
            clear hyy
            have hd : wr.cell? ⟨w1.heap.size, y, none⟩ = some (.bool (seenJ f n k j y)) := (Rb.bp HSj.out).cell y hy
            have hf := Rb.frozen HSj.out y
            have HT := Lib.hid (Rb.set HSj.out hy true)
            have HR4 := Lib.hid (HRj.out.grown HT.out.2 (rows_apart (by decide) (rd_rg HRj.out) HSj.out))
            have HV4 := Lib.hid (HVj.out.setB HSj.out HT.out.2)
            have HB4 := Lib.hid (HBj.out.setCell (p := ⟨w1.heap.size, y, none⟩) (Nat.le_refl _) (.bool true))
            have HZ4 := Lib.hid (Nat.le_trans HZj.out HT.out.2.size)
            have HE := Lib.hid (seenJ_step f n k j)
            go_wp2
            go_roundw
            case rel => exact ⟨j + 1, by omega, by go_num, by rw [← HE.out, ← HY.out]; exact HT.out.1, HR4.out, HV4.out, HB4.out, HZ4.out⟩
            case measure => simp [intOf]; omega
          · obtain rfl : j = p := by omega
            have HJE := Lib.hid (show seenJ f n k j = seenB f n (k + 1) by rw [HPE.out]; exact seenJ_end H.out.into hlt HCK.out)
            have HVL := Lib.hid (show vs.length ≤ 60 by have h2 := cycsTo_len f n k; rw [← HVj.out.len] at h2; omega)
            have HZm := Lib.hid HZ.out
            go_wp2_with (at_builtin; refine wpList_appG rfl _ _ _ 22 (.slice none 0 0) 24 Try.underlying32 infoL (by omega) rfl rfl w2.heap.size w2.heap.size u5 _ vs [.slice (some ⟨gu, 0, none⟩) j cu] rfl rfl (HVj.out.row.alloc _) (Rg.lit _ _ _ _ HZj.out) (by simp [Value.oneCell']) (by have := HVL.out; simp; omega) (by have := HZj.out; simp; omega) ?_; intro v1 w4 hr4 hg4 hb4)
            have HV5 := Lib.hid (HVj.out.snoc (o := .cells #[.slice (some ⟨gu, 0, none⟩) j cu] 22) (HRj.out.mono HZm.out) HA3.out hr4 hg4)
            have HS5 := Lib.hid (((HSj.out.alloc (.cells #[.slice (some ⟨gu, 0, none⟩) j cu] 22)).grown hg4 (rows_apart (by decide) HSj.out HVj.out.row) : Rb w4 w1.heap.size (.slice (some ⟨w1.heap.size, 0, none⟩) n n) (bls n (seenJ f n k j))))
            have HB5 := Lib.hid ((HBj.out.alloc HBj.out.size _).trans (hb4.mono (Nat.le_of_lt HZ2.out)))
            have HZ5 := Lib.hid (Nat.le_trans HZj.out (Nat.le_trans (Nat.le_of_lt (by simp)) hg4.size))
            clear hr4 hg4 hb4
            go_wp2
            go_roundw
            case rel => exact ⟨k + 1, _, by omega, by go_num, by rw [HC.out]; exact HV5.out, by rw [← HJE.out]; exact HS5.out, HB5.out, HZ5.out⟩
            case measure => simp [intOf]; omega
    · obtain rfl : k = n := by omega
      go_wp2
      go_ret
      exact ⟨_, vs, rfl, HV.out.mono HB2.out.size, HBw.out⟩

end Go.Proofs.Yticagncemlnafaa
