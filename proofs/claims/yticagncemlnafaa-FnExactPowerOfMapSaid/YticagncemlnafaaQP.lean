/-
  Answers of PowerOfMap.
-/
import Derived.Test.YticagncemlnafaaPI
namespace Go.Proofs.Yticagncemlnafaa
open Go.RowKit
set_option linter.unusedVariables false
set_option linter.unusedSimpArgs false
set_option maxRecDepth 100000

def OK_PowerOfMap (xs : List Int) (k : Int) : Bool := goodM xs && stepsK k
def LF_PowerOfMap (xs : List Int) (k : Int) : List Int := if OK_PowerOfMap xs k = true then lst xs.length (it (fnO xs) k.toNat) else []
theorem LF_PowerOfMap_len (xs : List Int) (k : Int) (h : xs.length ≤ 1048576) : (LF_PowerOfMap xs k).length ≤ 2000000 := by
  unfold LF_PowerOfMap
  split
  · rw [lst_len]; omega
  · simp
theorem it_round {f : Nat → Nat} {n x K : Nat} (h : Into f n) (hx : x < n) (hK : dep f n x ≤ K) : it f (dep f n x + (K - dep f n x) % per f n (it f (dep f n x) x)) x = it f K x := by
  obtain ⟨d1, d2, d3⟩ := dep_spec (f := f) hx
  have hp := (per_spec h d2).2.2.1
  rw [Nat.add_comm, it_add, ← it_mod hp, ← it_add, show K - dep f n x + dep f n x = K from by omega]

theorem impl_PowerOfMap (v : Value) (xs : List Int) (k : Int) (B : Nat) (w : World) (h : Rd w B v xs) (hl : xs.length ≤ 1048576) :
    Calls Try.prog 43 #[v, .int .i64 k] w fun e w' => ∃ u, e = .returned (.tuple #[u, .bool (OK_PowerOfMap xs k)]) ∧ Rd w' w.heap.size u (LF_PowerOfMap xs k) ∧ Below w.heap.size w w' := by
  have H1 := Lib.hid h
  have HX := Lib.hid hl
  cases q1 : goodM xs
  · have HO := Lib.hid (show OK_PowerOfMap xs k = false by unfold OK_PowerOfMap; rw [q1]; rfl)
    have HL := Lib.hid (show LF_PowerOfMap xs k = [] by unfold LF_PowerOfMap; rw [HO.out]; rfl)
    clear h hl
    go_enter Try.func43, Try.ntmps43
    go_wp2_with (go_at_call 21; refine (IsMap_any _ xs _ _ H1.out (by have := HX.out; omega)).mono ?_; rw [q1]; rintro e w1 ⟨rfl, rfl⟩)
    go_ret2
    exact ⟨_, by rw [HO.out]; rfl, by rw [HL.out]; exact Rd.nil _ _, Below.refl _ _⟩
  · obtain ⟨g, n, cap, f, rfl, hm, hn, hf, hxs, _⟩ := h.good q1
    have HM := Lib.hid hm
    have n0 := hm.n0
    have n1 := hm.n1
    cases q3 : stepsK k
    · have HO := Lib.hid (show OK_PowerOfMap xs k = false by unfold OK_PowerOfMap; rw [q1, q3]; rfl)
      have HL := Lib.hid (show LF_PowerOfMap xs k = [] by unfold LF_PowerOfMap; rw [HO.out]; rfl)
      clear h hl hm hn hf hxs
      go_enter Try.func43, Try.ntmps43
      go_wp2_with (first | (go_at_call 21; refine (IsMap_any _ xs _ _ H1.out (by have := HX.out; omega)).mono ?_; rw [q1]; rintro e w1 ⟨rfl, rfl⟩) | (go_at_call 63; refine (areMapSteps_any _ _).mono ?_; rw [q3]; rintro e w1 ⟨rfl, rfl⟩))
      go_ret2
      exact ⟨_, by rw [HO.out]; rfl, by rw [HL.out]; exact Rd.nil _ _, Below.refl _ _⟩
    · obtain ⟨k0, k1⟩ := stepsK_iff.1 q3
      obtain ⟨K, rfl⟩ : ∃ K : Nat, k = (K : Int) := ⟨k.toNat, by omega⟩
      have HO := Lib.hid (show OK_PowerOfMap xs (K : Int) = true by unfold OK_PowerOfMap; rw [q1, q3]; rfl)
      have HL := Lib.hid (show LF_PowerOfMap xs (K : Int) = lst n (it f K) by unfold LF_PowerOfMap; rw [if_pos HO.out, ← hf, ← hn]; rfl)
      clear h hl hm hn hf hxs
      go_enter Try.func43, Try.ntmps43
      go_wp2_with (first | (go_at_call 21; refine (IsMap_any _ xs _ _ H1.out (by have := HX.out; omega)).mono ?_; rw [q1]; rintro e w1 ⟨rfl, rfl⟩) | (go_at_call 63; refine (areMapSteps_any _ _).mono ?_; rw [q3]; rintro e w1 ⟨rfl, rfl⟩) | (go_at_call 64; refine (power_any g n cap f K _ HM.out (by omega)).mono ?_; rintro e w1 ⟨g3, c3, rfl, hr, hb⟩; have HR := Lib.hid hr; have HB := Lib.hid hb; clear hr hb))
      go_ret2
      exact ⟨_, by rw [HO.out]; rfl, by rw [HL.out]; exact HR.out, HB.out⟩

set_option maxHeartbeats 2000000 in
theorem spec_PowerOfMap (v : Value) (xs : List Int) (k : Int) (B : Nat) (w : World) (h : Rd w B v xs) (hl : xs.length ≤ 1048576) :
    Calls Try.prog 42 #[v, .int .i64 k] w fun e w' => ∃ u, e = .returned (.tuple #[u, .bool (OK_PowerOfMap xs k)]) ∧ Rd w' w.heap.size u (LF_PowerOfMap xs k) ∧ Below w.heap.size w w' := by
  have H1 := Lib.hid h
  have HX := Lib.hid hl
  cases q1 : goodM xs
  · have HO := Lib.hid (show OK_PowerOfMap xs k = false by unfold OK_PowerOfMap; rw [q1]; rfl)
    have HL := Lib.hid (show LF_PowerOfMap xs k = [] by unfold LF_PowerOfMap; rw [HO.out]; rfl)
    clear h hl
    go_enter Try.func42, Try.ntmps42
    go_wp2_with (go_at_call 58; refine (mpGood_any _ xs _ _ H1.out (by have := HX.out; omega)).mono ?_; rw [q1]; rintro e w1 ⟨rfl, rfl⟩)
    go_ret2
    exact ⟨_, by rw [HO.out]; rfl, by rw [HL.out]; exact Rd.nil _ _, Below.refl _ _⟩
  · obtain ⟨g, n, cap, f, rfl, hm, hn, hf, hxs, _⟩ := h.good q1
    have HM := Lib.hid hm
    have n0 := hm.n0
    have n1 := hm.n1
    cases q3 : stepsK k
    · have HO := Lib.hid (show OK_PowerOfMap xs k = false by unfold OK_PowerOfMap; rw [q1, q3]; rfl)
      have HL := Lib.hid (show LF_PowerOfMap xs k = [] by unfold LF_PowerOfMap; rw [HO.out]; rfl)
      clear h hl hm hn hf hxs
      go_enter Try.func42, Try.ntmps42
      go_wp2_with (first | (go_at_call 58; refine (mpGood_any _ xs _ _ H1.out (by have := HX.out; omega)).mono ?_; rw [q1]; rintro e w1 ⟨rfl, rfl⟩) | (go_at_call 61; refine (mpSteps_any _ _).mono ?_; rw [q3]; rintro e w1 ⟨rfl, rfl⟩))
      go_ret2
      exact ⟨_, by rw [HO.out]; rfl, by rw [HL.out]; exact Rd.nil _ _, Below.refl _ _⟩
    · obtain ⟨k0, k1⟩ := stepsK_iff.1 q3
      obtain ⟨K, rfl⟩ : ∃ K : Nat, k = (K : Int) := ⟨k.toNat, by omega⟩
      have HO := Lib.hid (show OK_PowerOfMap xs (K : Int) = true by unfold OK_PowerOfMap; rw [q1, q3]; rfl)
      have HL := Lib.hid (show LF_PowerOfMap xs (K : Int) = lst n (it f K) by unfold LF_PowerOfMap; rw [if_pos HO.out, ← hf, ← hn]; rfl)
      clear h hl hm hn hf hxs
      go_enter Try.func42, Try.ntmps42
      go_wp2_with (first | (go_at_call 58; refine (mpGood_any _ xs _ _ H1.out (by have := HX.out; omega)).mono ?_; rw [q1]; rintro e w1 ⟨rfl, rfl⟩) | (go_at_call 61; refine (mpSteps_any _ _).mono ?_; rw [q3]; rintro e w1 ⟨rfl, rfl⟩) | (go_at_call 75; refine (mpDepths_any g n cap f _ HM.out).mono ?_))
      rintro e w1 ⟨u1, rfl, hr, hb⟩
      obtain ⟨gd, cd, rfl⟩ : ∃ gd cd, u1 = .slice (some ⟨gd, 0, none⟩) n cd := by
        rcases hr.cases with ⟨_, hx⟩ | ⟨gd, cd, hu, _⟩
        · have := congrArg List.length hx; rw [lst_len] at this; simp at this; omega
        · rw [lst_len] at hu; exact ⟨gd, cd, hu⟩
      have HD1 := Lib.hid hr
      have HB1 := Lib.hid hb
      clear hr hb
      go_wp2_with fail
      refine (mpCyclic_any g n cap f _ (HM.out.keep HB1.out)).mono ?_
      rintro e w2 ⟨gc, rfl, hr, hb⟩
      have HC2 := Lib.hid (Rb.bp hr)
      have HD2 := Lib.hid (HD1.out.keep hb)
      have HB2 := Lib.hid (Below.step HB1.out HB1.out.size hb)
      clear hr hb
      go_wp2
      go_loopw [8, 26] (fun u i wr => ∃ j : Nat, j ≤ n ∧ i = .int .i64 j ∧ Rd wr w2.heap.size u (lst j (it f K)) ∧ Below w2.heap.size w2 wr) (fun _ i _ => n - (intOf i).toNat)
      case atStart => exact ⟨0, Nat.zero_le _, rfl, Rd.nil _ _, Below.refl _ _⟩
      case round =>
        obtain ⟨j, hj, rfl, hr, hb⟩ := hrel
        have HR := Lib.hid hr
        have HB := Lib.hid hb
        have HBw := Lib.hid (Below.step HB2.out HB2.out.size hb)
        clear hr hb
        by_cases hlt : j < n
        · obtain ⟨D, hD⟩ : ∃ D, D = dep f n j := ⟨_, rfl⟩
          obtain ⟨dd1, dd2, dd3⟩ := dep_spec (f := f) hlt
          have HIR := Lib.hid (fun hK => it_round HM.out.into hlt (K := K) hK)
          rw [← hD] at dd1 dd2 HIR
          have HDE := Lib.hid hD
          have hcd : wr.cell? ⟨gd, j, none⟩ = some (.int .i64 (D : Int)) := by
            rw [(HD2.out.keep HB.out).at.2.2.2.2.1 j (by rw [lst_len]; exact hlt), lst_at, hD]
          have HLL := Lib.hid (lst_len j (it f K))
          clear hD dd3
          by_cases hK : D < K
          · have hKi : (D : Int) < (K : Int) := by omega
            have hatn := it_lt HM.out.into D hlt
            obtain ⟨y, hy⟩ : ∃ y, y = it f D j := ⟨_, rfl⟩
            have HY := Lib.hid hy
            rw [← hy] at hatn dd2 HIR
            have hcc := (HC2.out.keep HB.out).cell y hatn
            rw [dd2] at hcc
            obtain ⟨p1, p2, _⟩ := per_spec HM.out.into dd2
            have HCY := Lib.hid dd2
            obtain ⟨p, hp⟩ : ∃ p, p = per f n y := ⟨_, rfl⟩
            have HPE := Lib.hid hp
            rw [← hp] at p1 p2 HIR
            obtain ⟨e', he⟩ : ∃ e', e' = K - D := ⟨_, rfl⟩
            obtain ⟨r, hr⟩ : ∃ r, r = e' % p := ⟨_, rfl⟩
            have hei : (K : Int) - (D : Int) = (e' : Int) := by omega
            have hri : (e' : Int) % (p : Int) = (r : Int) := by rw [hr]; rfl
            have hrp : r < p := by rw [hr]; exact Nat.mod_lt _ (by omega)
            have hpz : ((p : Int) == 0) = false := beq_no (by omega)
            have hpp : 0 < (p : Int) := by omega
            obtain ⟨s, hs⟩ : ∃ s, s = D + r := ⟨_, rfl⟩
            have hdr : (D : Int) + (r : Int) = (s : Int) := by omega
            have hs6 : s ≤ 1000000 := by omega
            have HIR2 := Lib.hid (show it f s j = it f K j by rw [hs, hr, he]; exact HIR.out (by omega))
            have HE60 := Lib.hid (show e' ≤ 1000000 by omega)
            have HMd := Lib.hid ((HM.out.keep HBw.out).drew)
            have HBd := Lib.hid (HB.out.drew)
            clear hy dd2 hp he hr hs
            go_wp2_with (go_at_call 62; refine (mpAt_any g n cap f j D _ (HM.out.keep HBw.out) hlt (by omega)).mono ?_; rw [← HY.out]; rintro e w3 ⟨rfl, rfl⟩)
            go_region_with (go_at_call 67; refine (mpRound_any g n cap f y wr.drew HMd.out HCY.out).mono ?_; rintro e w3 ⟨u3, rfl, hr3, hb3⟩; obtain ⟨a3, c3, rfl⟩ := hr3.sl.len; rw [nts_len, rnd_len, ← HPE.out]; have HB3 := Lib.hid (Below.step HBd.out HBd.out.size hb3); have hcd3 : w3.cell? ⟨gd, j, none⟩ = some (.int .i64 (D : Int)) := (by rw [(HD2.out.keep HB3.out).at.2.2.2.2.1 j (by rw [lst_len]; exact hlt), lst_at, HDE.out]); have HR3 := Lib.hid (HR.out.drew.keep hb3); clear hr3 hb3)
            all_goals
              go_wp2_with (first | (go_at_call 62; refine (mpAt_any g n cap f j s _ (HM.out.keep (Below.step HB2.out HB2.out.size HB3.out)) hlt hs6).mono ?_; rw [HIR2.out]; rintro e w4 ⟨rfl, rfl⟩) | (at_builtin; refine wpList_appR rfl _ _ rfl w2.heap.size w2.heap.size _ _ (lst j (it f K)) [((it f K j : Nat) : Int)] rfl rfl (HR3.out.alloc _) (Rd.litB _ _ _ HB3.out.size) (by rw [HLL.out]; simp; omega) (by have := HB3.out.size; simp; omega) ?_; intro v1 w4 hr1 hg1 hb1))
              have HR4 := Lib.hid hr1
              have HB4 := Lib.hid ((HB3.out.alloc HB3.out.size _).trans hb1)
              clear hr1 hg1 hb1
              go_wp2
              go_roundw
              case rel => exact ⟨j + 1, by omega, by go_num, by rw [lst_succ]; exact HR4.out, HB4.out⟩
              case measure => simp [intOf]; omega
          · have hKi : (K : Int) ≤ (D : Int) := by omega
            go_wp2_with (first | (go_at_call 62; refine (mpAt_any g n cap f j K _ (HM.out.keep HBw.out) hlt (by omega)).mono ?_; rintro e w4 ⟨rfl, rfl⟩) | (at_builtin; refine wpList_appR rfl _ _ rfl w2.heap.size w2.heap.size _ _ (lst j (it f K)) [((it f K j : Nat) : Int)] rfl rfl (HR.out.alloc _) (Rd.litB _ _ _ HB.out.size) (by rw [HLL.out]; simp; omega) (by have := HB.out.size; simp; omega) ?_; intro v1 w4 hr1 hg1 hb1))
            have HR4 := Lib.hid hr1
            have HB4 := Lib.hid ((HB.out.alloc HB.out.size _).trans hb1)
            clear hr1 hg1 hb1
            go_wp2
            go_roundw
            case rel => exact ⟨j + 1, by omega, by go_num, by rw [lst_succ]; exact HR4.out, HB4.out⟩
            case measure => simp [intOf]; omega
        · obtain rfl : j = n := by omega
          go_wp2
          go_ret2
          exact ⟨_, by rw [HO.out]; rfl, by rw [HL.out]; exact HR.out.mono HB2.out.size, HBw.out⟩

end Go.Proofs.Yticagncemlnafaa
