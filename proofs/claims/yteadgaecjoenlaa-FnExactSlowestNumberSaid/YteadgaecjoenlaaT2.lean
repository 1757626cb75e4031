/-
  How long the numbers of a width take: the program's list; StepsSpread.
-/
import Derived.Test.YteadgaecjoenlaaT1
namespace Go.Proofs.Yteadgaecjoenlaa
open Go.RowKit
set_option linter.unusedVariables false
set_option linter.unusedSimpArgs false
set_option maxRecDepth 100000

theorem tmN_tmZ (V : Nat) (b : Int) (m i : Nat) : tmN (rvT b m (dgs b (b ^ (V - 1) + (i : Int)))) = tmZ V b m i := rfl

/-- How long the first n numbers of a width take. -/
def tzl (V : Nat) (b : Int) (m n : Nat) : List Int := (List.range n).map (tmZ V b m)
theorem tzl_len (V : Nat) (b : Int) (m n : Nat) : (tzl V b m n).length = n := by simp [tzl]
theorem tzl_succ (V : Nat) (b : Int) (m n : Nat) : tzl V b m (n + 1) = tzl V b m n ++ [tmZ V b m n] := by simp [tzl, List.range_succ]
theorem tzl_at (V : Nat) (b : Int) (m n j : Nat) (h : j < (tzl V b m n).length) : (tzl V b m n)[j] = tmZ V b m j := by simp [tzl]

theorem fillk (n k : Nat) (cs : List Int) (d : Int) (hd : cs.length = k) (hk : k < n) : (cs ++ List.replicate (n - k) (0 : Int)).set k d = (cs ++ [d]) ++ List.replicate (n - (k + 1)) 0 := frontfill n k cs d hd hk

theorem timesOfWidth_any (V : Nat) (b : Int) (m : Nat) (w : World) (hs : Sp V b) (hm : m ≤ 100) :
    Calls Try.prog 73 #[.int .i64 (V : Int), .int .i64 b, .int .i64 (m : Int)] w fun e w' => ∃ g, e = .returned (.slice (some ⟨g, 0, none⟩) (cnN V b) (cnN V b)) ∧ Rd w' w.heap.size (.slice (some ⟨g, 0, none⟩) (cnN V b) (cnN V b)) (tzl V b m (cnN V b)) ∧ Below w.heap.size w w' := by
  have HS := Lib.hid hs
  have hb2 := hs.b2
  have hb16 := hs.b16
  obtain ⟨c1, c2, c3⟩ := hs.cn
  obtain ⟨l1, l2⟩ := hs.least
  have HLE := Lib.hid (fun w => leastOfWidth_any b V w hb2 hb16 hs.v1 hs.v14)
  have HRT := Lib.hid (fun (i g cap : Nat) (w' : World) (h : Rd w' w.heap.size (.slice (some ⟨g, 0, none⟩) (dgs b (b ^ (V - 1) + (i : Int))).length cap) (dgs b (b ^ (V - 1) + (i : Int)))) (hD : w.heap.size ≤ w'.heap.size) (hi : i < 20000) =>
    runTimes_any g cap (dgs b (b ^ (V - 1) + (i : Int))) b m w.heap.size w' h hD (dgs_Dg b _ hb2 hb16 (by omega) (by omega)) hm)
  have HTZ := Lib.hid (fun i => tmN_tmZ V b m i)
  obtain ⟨P, hP⟩ : ∃ P, P = b ^ (V - 1) := ⟨_, rfl⟩
  obtain ⟨N, hN⟩ : ∃ N, N = cnN V b := ⟨_, rfl⟩
  rw [← hP] at HLE HRT HTZ c1 l1 l2
  rw [← hN] at c1 c2 c3
  rw [← hN]
  have HC1 := Lib.hid c1
  have hmul : (b - 1) * P = (N : Int) := c1.symm
  have HB := Lib.hid (Below.refl w.heap.size w)
  clear hs hP hN c1
  go_enter Try.func73, Try.ntmps73
  go_wp2_with (first
    | (go_at_call 75; go_loud (refine (HLE.out _).mono ?_; rintro e w1 ⟨rfl, rfl⟩))
    | (at_make; go_loud (refine wpList_mkR rfl _ _ rfl .i64 .i64 _ _ N rfl rfl (by have := HC1.out; go_num) (by have := HC1.out; go_num) (by omega) ?_; intro w1 hr1 hg1 hb1; have R1 := Lib.hid hr1; have B1 := Lib.hid hb1; clear hr1 hg1 hb1)))
  clear hmul
  go_loopw [21] (fun i wr => ∃ k : Nat, k ≤ N ∧ i = .int .i64 (k : Int) ∧ Rd wr w.heap.size (.slice (some ⟨w.heap.size, 0, none⟩) N N) (tzl V b m k ++ List.replicate (N - k) 0) ∧ Below w.heap.size w wr) (fun i _ => N - (intOf i).toNat)
  case atStart => exact ⟨0, Nat.zero_le _, rfl, by simpa [tzl] using R1.out, B1.out⟩
  case round =>
    obtain ⟨k, hk, rfl, hr, hb⟩ := hrel
    have HR := Lib.hid hr
    have HBR := Lib.hid hb
    clear hr hb
    by_cases hlt : k < N
    · have HTK := Lib.hid (HTZ.out k)
      obtain ⟨t, ht⟩ : ∃ t, t = tmZ V b m k := ⟨_, rfl⟩
      have HT := Lib.hid ht
      rw [← ht] at HTK
      clear ht
      go_wp2_with fail
      refine (digits_any (P + (k : Int)) b _ (by omega) (by omega) hb2 hb16).mono ?_
      rintro e w2 ⟨g2, cap2, rfl, hr2, hb2'⟩
      have HR2 := Lib.hid (HR.out.keep hb2')
      have B2 := Lib.hid (Below.step HBR.out HBR.out.size hb2')
      have D2 := Lib.hid (hr2.mono HBR.out.size)
      have HAL := Lib.hid (alloc_below w2 (.cells #[.slice (some ⟨g2, 0, none⟩) (dgs b (P + (k : Int))).length cap2, .int .i64 b] 49))
      have HR3 := Lib.hid (HR2.out.keep HAL.out)
      have B3 := Lib.hid (Below.step B2.out B2.out.size HAL.out)
      have D3 := Lib.hid (D2.out.keep HAL.out)
      have hk2 : k < 20000 := by omega
      clear hr2 hb2'
      go_wp2_with fail
      refine (HRT.out k g2 cap2 _ D3.out B3.out.size hk2).mono ?_
      rintro e w4 ⟨g', c', al, n, cl, rfl, hb4, ⟨gg, mm, rfl⟩, hnx⟩
      have B4 := Lib.hid (Below.step B3.out B3.out.size hb4)
      have HR4 := Lib.hid (HR3.out.keep hb4)
      have NX := Lib.hid (hnx w4 (Below.refl _ _))
      clear hb4 hnx
      go_wp2_with fail
      refine NX.out.mono ?_
      rw [HTK.out]
      rintro e w5 ⟨rfl, hb5⟩
      have B5 := Lib.hid (Below.step B4.out B4.out.size hb5)
      have HR5 := Lib.hid (HR4.out.keep hb5)
      have hl5 : (tzl V b m k ++ List.replicate (N - k) (0 : Int)).length = N := by rw [List.length_append, tzl_len, List.length_replicate]; omega
      obtain ⟨q, hq⟩ : ∃ q, w5.cell? ⟨w.heap.size, k, none⟩ = some (.int .i64 q) := ⟨_, HR5.out.at.2.2.2.2.1 k (by rw [hl5]; exact hlt)⟩
      have hf := HR5.out.at.2.2.2.2.2 k
      clear hb5 hl5
      go_wp2
      go_roundw
      case rel =>
        have h1 := HR5.out.set k t
        rw [fillk N k _ _ (tzl_len V b m k) hlt, HT.out, ← tzl_succ] at h1
        rw [HT.out]
        exact ⟨k + 1, by omega, by go_num, h1.1, B5.out.setCell (Nat.le_refl _) _⟩
      case measure => simp [intOf]; omega
    · obtain rfl : k = N := by omega
      go_wp2
      go_ret
      exact ⟨w.heap.size, rfl, by have := HR.out; rwa [Nat.sub_self, List.replicate_zero, List.append_nil] at this, HBR.out⟩

/-- What StepsSpread answers. -/
def okSS (V b m : Int) : Bool := okSp V b && okM m
abbrev OK_StepsSpread (V b m : Int) : Bool := okSS V b m
def LF_StepsSpread (V b m : Int) : List Int := if okSS V b m = true then sprN V.toNat b m.toNat (cnN V.toNat b) else []
theorem okSS_yes {V b m : Int} (h1 : okSp V b = true) (h2 : okM m = true) : okSS V b m = true := by unfold okSS; rw [h1, h2]; rfl
theorem okSS_no1 {V b m : Int} (h1 : okSp V b = false) : okSS V b m = false := by unfold okSS; rw [h1]; rfl
theorem okSS_no2 {V b m : Int} (h1 : okM m = false) : okSS V b m = false := by unfold okSS; rw [h1]; simp
theorem LFS_yes {V b m : Int} (h : okSS V b m = true) : LF_StepsSpread V b m = sprN V.toNat b m.toNat (cnN V.toNat b) := if_pos h
theorem LFS_no {V b m : Int} (h : okSS V b m = false) : LF_StepsSpread V b m = [] := if_neg (by rw [h]; simp)

theorem tmZ_cases (V : Nat) (b : Int) (m i : Nat) : (tmZ V b m i = -1 ∧ ixT m (tmW V b m i) = m + 1) ∨ (∃ k : Nat, tmZ V b m i = (k : Int) ∧ ixT m (tmW V b m i) = k ∧ k ≤ m) := by
  unfold tmZ
  cases h : tmW V b m i with
  | none => exact .inl ⟨rfl, rfl⟩
  | some k => exact .inr ⟨k, rfl, rfl, rvT_le h⟩

theorem impl_StepsSpread (V b m : Int) (w : World) :
    Calls Try.prog 39 #[.int .i64 V, .int .i64 b, .int .i64 m] w fun e w' => ∃ u, e = .returned (.tuple #[u, .bool (OK_StepsSpread V b m)]) ∧ Rd w' w.heap.size u (LF_StepsSpread V b m) ∧ Below w.heap.size w w' := by
  unfold OK_StepsSpread
  by_cases ho : okSp V b = true
  · have HO := Lib.hid ho
    by_cases hm : okM m = true
    · have HM := Lib.hid hm
      have ha := okSS_yes ho hm
      rw [LFS_yes ha, ha]
      obtain ⟨U, rfl, hs⟩ := okSp_sp ho
      obtain ⟨k, rfl, hk⟩ := okM_nat hm
      rw [Int.toNat_natCast, Int.toNat_natCast]
      have HTW := Lib.hid (fun w => timesOfWidth_any U b k w hs hk)
      have HNB := Lib.hid hs.cn
      clear ho hm ha hs
      obtain ⟨M, hM⟩ : ∃ M, M = k + 2 := ⟨_, rfl⟩
      obtain ⟨L, hL⟩ : ∃ L, L = sprN U b k (cnN U b) := ⟨_, rfl⟩
      have HMM := Lib.hid hM
      have HLL := Lib.hid hL
      have hM2 : M ≤ 102 := by omega
      have HMI := Lib.hid (show (k : Int) + 2 = (M : Int) by omega)
      rw [← hL]
      clear hM hL
      go_enter Try.func39, Try.ntmps39
      go_wp2_with (first
        | (go_at_call 72; go_loud (refine (isSpreadWidth_any _ _ _).mono ?_; rw [HO.out]; rintro e w1 ⟨rfl, rfl⟩))
        | (go_at_call 59; go_loud (refine (areTimes_any _ _).mono ?_; rw [HM.out]; rintro e w1 ⟨rfl, rfl⟩))
        | (at_make; go_loud (refine wpList_mkR rfl _ _ rfl .i64 .i64 _ _ M rfl rfl (by have h := HMI.out; first | exact h | go_num) (by have h := HMI.out; first | exact h | go_num) (by omega) ?_; intro w1 hr1 hg1 hb1; have R1 := Lib.hid hr1; have B1 := Lib.hid hb1; clear hr1 hg1 hb1)))
      refine (HTW.out _).mono ?_
      rintro e w2 ⟨g2, rfl, hr2, hb2⟩
      obtain ⟨N, hN⟩ : ∃ N, N = cnN U b := ⟨_, rfl⟩
      rw [← hN] at hr2 HNB HLL
      rw [← hN]
      have hN2 : N ≤ 20000 := HNB.out.2.2
      have HT2 := Lib.hid hr2
      have B2 := Lib.hid (Below.step B1.out B1.out.size hb2)
      have R2 := Lib.hid (R1.out.keep hb2)
      have HLT := Lib.hid (R1.out.at.2.2.1)
      have HGE := Lib.hid (hr2.lt g2 rfl)
      have HR0 := Lib.hid (show List.replicate M (0:Int) = sprN U b k 0 by rw [HMM.out]; rfl)
      clear hN hr2 hb2
      go_wp2
      go_loopw [28] (fun i wr => ∃ j : Nat, j ≤ N ∧ i = .int .i64 (j : Int) ∧ Rd wr w.heap.size (.slice (some ⟨w.heap.size, 0, none⟩) M M) (sprN U b k j) ∧ Rd wr w.heap.size (.slice (some ⟨g2, 0, none⟩) N N) (tzl U b k N) ∧ Below w.heap.size w wr) (fun i _ => N - (intOf i).toNat)
      case atStart => exact ⟨0, Nat.zero_le _, rfl, by rw [← HR0.out]; exact R2.out, HT2.out.mono B1.out.size, B2.out⟩
      case round =>
        obtain ⟨j, hj, rfl, hr, ht, hb⟩ := hrel
        have HR := Lib.hid hr
        have HT := Lib.hid ht
        have HB := Lib.hid hb
        clear hr ht hb
        by_cases hlt : j < N
        · have hcell : wr.cell? ⟨g2, j, none⟩ = some (.int .i64 (tmZ U b k j)) := by
            rw [HT.out.at.2.2.2.2.1 j (by rw [tzl_len]; exact hlt), tzl_at]
          have HTC := Lib.hid (tmZ_cases U b k j)
          have HIX := Lib.hid (ixT_lt U b k j)
          obtain ⟨x, hx⟩ : ∃ x, x = ixT k (tmW U b k j) := ⟨_, rfl⟩
          obtain ⟨z, hz⟩ : ∃ z, z = tmZ U b k j := ⟨_, rfl⟩
          have HX := Lib.hid hx
          rw [← hx] at HTC HIX
          rw [← hz] at HTC hcell
          have hxM : x < M := by have := HIX.out; have := HMM.out; omega
          have hlen := sprN_len U b k j
          have hq0 : wr.cell? ⟨w.heap.size, x, none⟩ = some (.int .i64 ((sprN U b k j).getD x 0)) := by
            rw [HR.out.at.2.2.2.2.1 x (by rw [hlen]; have := HMM.out; omega), List.getD_eq_getElem?_getD, List.getElem?_eq_getElem (by rw [hlen]; have := HMM.out; omega)]; rfl
          have hqb := sprN_bd U b k j x
          have hfz := HR.out.at.2.2.2.2.2 x
          obtain ⟨q, hq⟩ : ∃ q, q = (sprN U b k j).getD x 0 := ⟨_, rfl⟩
          have HQ := Lib.hid hq
          rw [← hq] at hq0 hqb
          obtain ⟨q1, q2⟩ := hqb
          have HST := Lib.hid (show (sprN U b k j).set x (q + 1) = sprN U b k (j + 1) by rw [hq, hx]; rfl)
          have HRS := Lib.hid (HR.out.set x (q + 1))
          have HTS := Lib.hid (HT.out.grown HRS.out.2 (.inr (fun e => by have h1 := HGE.out.1; have h2 := HLT.out; simp [Value.ownBlock] at e; omega)))
          have HBS := Lib.hid (HB.out.setCell (p := ⟨w.heap.size, x, none⟩) (Nat.le_refl _) (.int .i64 (q + 1)))
          clear hx hz hlen hq
          rcases HTC.out with ⟨h1, h2⟩ | ⟨t, h1, h2, h3⟩
          · subst h1
            have hx1 : (k : Int) + 1 = (x : Int) := by omega
            have HX1 := Lib.hid hx1
            have hwx : IntKind.i64.wrap ((k : Int) + 1) = (x : Int) := by rw [IntWalk.i64_in _ (by omega)]; omega
            have hwx2 : wrap64 ((k : Int) + 1) = (x : Int) := by rw [IntWalk.wrap64_in _ (by omega)]; omega
            clear hx1 h2
            go_wp2
            go_roundw
            case rel => exact ⟨j + 1, by omega, by go_num, by rw [← HST.out]; exact HRS.out.1, HTS.out, HBS.out⟩
            case measure => simp [intOf]; omega
          · subst h2
            subst h1
            have hne : ((x : Int) == -1) = false := beq_no (by omega)
            clear h3
            go_wp2
            go_roundw
            case rel => exact ⟨j + 1, by omega, by go_num, by rw [← HST.out]; exact HRS.out.1, HTS.out, HBS.out⟩
            case measure => simp [intOf]; omega
        · obtain rfl : j = N := by omega
          go_wp2
          go_ret2
          exact ⟨_, rfl, by rw [HLL.out]; exact HR.out, HB.out⟩
    · have hm' : okM m = false := by simpa using hm
      have HM := Lib.hid hm'
      rw [LFS_no (okSS_no2 hm'), okSS_no2 hm']
      clear ho hm hm'
      go_enter Try.func39, Try.ntmps39
      go_wp2_with (first
        | (go_at_call 72; go_loud (refine (isSpreadWidth_any _ _ _).mono ?_; rw [HO.out]; rintro e w1 ⟨rfl, rfl⟩))
        | (go_at_call 59; go_loud (refine (areTimes_any _ _).mono ?_; rw [HM.out]; rintro e w1 ⟨rfl, rfl⟩)))
      go_ret2
      exact ⟨_, rfl, Rd.nil _ _, Below.refl _ _⟩
  · have ho' : okSp V b = false := by simpa using ho
    have HO := Lib.hid ho'
    rw [LFS_no (okSS_no1 ho'), okSS_no1 ho']
    clear ho ho'
    go_enter Try.func39, Try.ntmps39
    go_wp2_with (go_at_call 72; go_loud (refine (isSpreadWidth_any _ _ _).mono ?_; rw [HO.out]; rintro e w1 ⟨rfl, rfl⟩))
    go_ret2
    exact ⟨_, rfl, Rd.nil _ _, Below.refl _ _⟩

end Go.Proofs.Yteadgaecjoenlaa
