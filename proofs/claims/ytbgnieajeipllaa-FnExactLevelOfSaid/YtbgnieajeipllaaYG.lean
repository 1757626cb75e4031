/-
  Ways to 1, their lengths and greatest numbers, falls: the program's and the model's answers.
-/
import Derived.Test.YtbgnieajeipllaaYF
import Derived.Test.YtbgnieajeipllaaS3
namespace Go.Proofs.Ytbgnieajeipllaa
open Go.RowKit
set_option linter.unusedVariables false
set_option linter.unusedSimpArgs false
set_option maxRecDepth 100000

theorem stWay_any (m0 : Int) (w : World) (h0 : Nst m0) :
    Calls Try.prog 56 #[.int .i64 m0] w fun e w' => ∃ v, e = .returned (.tuple #[v, .bool (wlk E1 1 1000 m0).isSome]) ∧ Rd w' w.heap.size v ((wlk E1 1 1000 m0).getD []) ∧ Below w.heap.size w w' := by
  obtain ⟨X, hX⟩ : ∃ X, X = wlk E1 1 1000 m0 := ⟨_, rfl⟩
  have HX := Lib.hid hX
  rw [← hX]
  clear hX
  have HN0 := Lib.hid h0
  clear h0
  go_enter Try.func56, Try.ntmps56
  go_wp2
  go_loopw [0, 4] (fun i o wr => ∃ (m : Int) (pre : List Int), i = .int .i64 m ∧ Hid (Nst m) ∧ pre.length ≤ 1000 ∧ lenOf o = pre.length + 1 ∧ Rd wr w.heap.size o (pre ++ [m]) ∧ Hid (jn pre (wlk E1 1 (1000 - pre.length) m) = X) ∧ Below w.heap.size w wr) (fun _ o _ => 1001 - lenOf o)
  case atStart => exact ⟨m0, [], rfl, Lib.hid HN0.out, by simp, rfl, Rd.litB _ _ _ (Nat.le_refl _), Lib.hid (by rw [jn_nil, HX.out]; rfl), al_below _ _⟩
  case round =>
    obtain ⟨m, pre, rfl, HM, hpl, hlo, hr, HE, hbl⟩ := hrel
    have HR := Lib.hid hr
    have HB := Lib.hid hbl
    clear hr hbl
    obtain ⟨a6, c6, rfl⟩ := HR.out.sl.len
    obtain ⟨K, hK⟩ : ∃ K, K = (pre ++ [m]).length := ⟨_, rfl⟩
    have HK := Lib.hid (show pre.length + 1 = K by rw [hK]; simp)
    have hk1 : K ≤ 1001 := by have := HK.out; omega
    rw [← hK] at HR hlo ⊢
    clear hK hlo hpl
    have m0' := HM.out.1
    have m1' := HM.out.2
    by_cases hq : m = 1
    · have HE2 := Lib.hid (show X = some (pre ++ [m]) by rw [← HE.out]; exact wlk_jn_end pre (decide_eq_true hq))
      have hq2 : (m != 1) = false := bne_no hq
      clear hq
      go_wp2
      go_ret2
      exact ⟨_, by rw [HE2.out]; rfl, by rw [HE2.out]; exact HR.out, HB.out⟩
    · have hq2 : (m != 1) = true := bne_yes hq
      have hE : E1 m = false := decide_eq_false hq
      by_cases hs : Nst (stp 1 m)
      · have a1 : decide (Nst (stp 1 m)) = true := decide_eq_true hs
        by_cases hlt : K ≤ 1000
        · have HE2 := Lib.hid (wlk_jn_step (pre := pre) hE hs (by have := HK.out; omega))
          have HNZ := Lib.hid hs
          have HSS := Lib.hid (fun w' => stStep_any m 1 w' (by omega) (by omega) (by omega) (by omega))
          obtain ⟨z, hz⟩ : ∃ z, z = stp 1 m := ⟨_, rfl⟩
          rw [← hz] at a1 HE2 HNZ HSS
          clear hs hq hz hE
          have hlg2 : decide ((1000 : Int) < (K : Int)) = false := decide_eq_false (by omega)
          go_wp2_with (first | (go_at_call 53; refine (HSS.out _).mono ?_; rintro e w1 ⟨rfl, rfl⟩) | (go_at_call 51; refine (stNumber_any _ _).mono ?_; rintro e w1 ⟨rfl, rfl⟩) | (at_builtin; refine wpList_appR rfl _ _ rfl w.heap.size w.heap.size _ _ (pre ++ [m]) [z] rfl rfl (HR.out.alloc _) (Rd.litB _ _ _ HB.out.size) (by have := HK.out; simp; omega) (by have := HB.out.size; simp; omega) ?_; intro v1 w2 hr1 hg1 hb2; have HR2 := Lib.hid hr1; have HB2 := Lib.hid ((HB.out.alloc HB.out.size _).trans hb2); clear hr1 hg1 hb2))
          go_roundw
          case rel => exact ⟨z, pre ++ [m], rfl, Lib.hid HNZ.out, by have := HK.out; simp; omega, by rw [lenOf_rd HR2.out]; simp, HR2.out, Lib.hid (by rw [← HE.out, HE2.out]), HB2.out⟩
          case measure => (rw [lenOf_rd HR2.out]; have := HK.out; simp [lenOf]; omega)
        · have HE2 := Lib.hid (show X = none by rw [← HE.out]; exact wlk_jn_long hE (by have := HK.out; omega))
          have HSS := Lib.hid (fun w' => stStep_any m 1 w' (by omega) (by omega) (by omega) (by omega))
          obtain ⟨z, hz⟩ : ∃ z, z = stp 1 m := ⟨_, rfl⟩
          rw [← hz] at a1 HSS
          clear hs hq hz hE
          have hlg2 : decide ((1000 : Int) < (K : Int)) = true := decide_eq_true (by omega)
          go_wp2_with (first | (go_at_call 53; refine (HSS.out _).mono ?_; rintro e w1 ⟨rfl, rfl⟩) | (go_at_call 51; refine (stNumber_any _ _).mono ?_; rintro e w1 ⟨rfl, rfl⟩))
          go_ret2
          exact ⟨_, by rw [HE2.out]; rfl, by rw [HE2.out]; exact Rd.nil _ _, HB.out⟩
      · have a1 : decide (Nst (stp 1 m)) = false := decide_eq_false hs
        have HE2 := Lib.hid (show X = none by rw [← HE.out]; exact wlk_jn_out pre hE hs)
        have HSS := Lib.hid (fun w' => stStep_any m 1 w' (by omega) (by omega) (by omega) (by omega))
        obtain ⟨z, hz⟩ : ∃ z, z = stp 1 m := ⟨_, rfl⟩
        rw [← hz] at a1 HSS
        clear hs hq hz hE
        go_wp2_with (first | (go_at_call 53; refine (HSS.out _).mono ?_; rintro e w1 ⟨rfl, rfl⟩) | (go_at_call 51; refine (stNumber_any _ _).mono ?_; rintro e w1 ⟨rfl, rfl⟩))
        go_ret2
        exact ⟨_, by rw [HE2.out]; rfl, by rw [HE2.out]; exact Rd.nil _ _, HB.out⟩

def OK_way (n : Int) : Bool := (way n).isSome

theorem impl_WayToOne (n : Int) (w : World) :
    Calls Try.prog 22 #[.int .i64 n] w fun e w' => ∃ v, e = .returned (.tuple #[v, .bool (OK_way n)]) ∧ Rd w' w.heap.size v (LF_WayToOne n) ∧ Below w.heap.size w w' := by
  by_cases hn : Nst n
  · have a1 : decide (Nst n) = true := decide_eq_true hn
    have HO := Lib.hid (show OK_way n = (wlk E1 1 1000 n).isSome by rw [OK_way, way_in hn])
    have HL := Lib.hid (show LF_WayToOne n = (wlk E1 1 1000 n).getD [] by rw [LF_WayToOne, way_in hn])
    have HN := Lib.hid hn
    clear hn
    rw [HO.out, HL.out]
    go_enter Try.func22, Try.ntmps22
    go_wp2_with (first | (go_at_call 57; refine (isStart_any _ _).mono ?_; rintro e w1 ⟨rfl, rfl⟩) | (go_at_call 55; refine (stepWith_any _ _).mono ?_; rintro e w1 ⟨g, rfl, hg, hc, hb⟩; have HB := Lib.hid hb; clear hb) | (go_at_call 59; refine (run_one 1 n g _ HN.out (by omega) (by omega) hc).mono ?_; rintro e w2 ⟨v, rfl, hr, hb⟩; have HR := Lib.hid (hr.mono HB.out.size); have HB2 := Lib.hid (Below.step HB.out HB.out.size hb); clear hr hb))
    go_ret2
    exact ⟨v, rfl, HR.out, HB2.out⟩
  · have a1 : decide (Nst n) = false := decide_eq_false hn
    have HO := Lib.hid (show OK_way n = false by rw [OK_way, way_no hn]; rfl)
    have HL := Lib.hid (show LF_WayToOne n = [] by rw [LF_WayToOne, way_no hn]; rfl)
    clear hn
    rw [HO.out, HL.out]
    go_enter Try.func22, Try.ntmps22
    go_wp2_with (go_at_call 57; refine (isStart_any _ _).mono ?_; rintro e w1 ⟨rfl, rfl⟩)
    go_ret2
    exact ⟨_, rfl, Rd.nil _ _, Below.refl _ _⟩

theorem spec_WayToOne (n : Int) (w : World) :
    Calls Try.prog 21 #[.int .i64 n] w fun e w' => ∃ v, e = .returned (.tuple #[v, .bool (OK_way n)]) ∧ Rd w' w.heap.size v (LF_WayToOne n) ∧ Below w.heap.size w w' := by
  by_cases hn : Nst n
  · have a1 : decide (Nst n) = true := decide_eq_true hn
    have HO := Lib.hid (show OK_way n = (wlk E1 1 1000 n).isSome by rw [OK_way, way_in hn])
    have HL := Lib.hid (show LF_WayToOne n = (wlk E1 1 1000 n).getD [] by rw [LF_WayToOne, way_in hn])
    have HN := Lib.hid hn
    clear hn
    rw [HO.out, HL.out]
    go_enter Try.func21, Try.ntmps21
    go_wp2_with (first | (go_at_call 51; refine (stNumber_any _ _).mono ?_; rintro e w1 ⟨rfl, rfl⟩) | (go_at_call 56; refine (stWay_any n _ HN.out).mono ?_; rintro e w2 ⟨v, rfl, hr, hb⟩; have HR := Lib.hid hr; have HB2 := Lib.hid hb; clear hr hb))
    go_ret2
    exact ⟨v, rfl, HR.out, HB2.out⟩
  · have a1 : decide (Nst n) = false := decide_eq_false hn
    have HO := Lib.hid (show OK_way n = false by rw [OK_way, way_no hn]; rfl)
    have HL := Lib.hid (show LF_WayToOne n = [] by rw [LF_WayToOne, way_no hn]; rfl)
    clear hn
    rw [HO.out, HL.out]
    go_enter Try.func21, Try.ntmps21
    go_wp2_with (go_at_call 51; refine (stNumber_any _ _).mono ?_; rintro e w1 ⟨rfl, rfl⟩)
    go_ret2
    exact ⟨_, rfl, Rd.nil _ _, Below.refl _ _⟩

/-- The way that a call tells, as a letter. -/
theorem way_impl {n : Int} {X : Option (List Int)} (h : way n = X) (w : World) :
    Calls Try.prog 22 #[.int .i64 n] w fun e w' => ∃ v, e = .returned (.tuple #[v, .bool X.isSome]) ∧ Rd w' w.heap.size v (X.getD []) ∧ Below w.heap.size w w' := by
  rw [← h]; exact impl_WayToOne n w
theorem way_spec {n : Int} {X : Option (List Int)} (h : way n = X) (hn : Nst n) (w : World) :
    Calls Try.prog 56 #[.int .i64 n] w fun e w' => ∃ v, e = .returned (.tuple #[v, .bool X.isSome]) ∧ Rd w' w.heap.size v (X.getD []) ∧ Below w.heap.size w w' := by
  rw [← h, way_in hn]; exact stWay_any n w hn

theorem impl_StepsTo (n : Int) (w : World) :
    Calls Try.prog 20 #[.int .i64 n] w fun e w' => e = .returned (optRes (RStepsTo n)) ∧ Below w.heap.size w w' := by
  cases hX : way n with
  | none =>
    have HS := Lib.hid (show RStepsTo n = none by rw [RStepsTo, hX]; rfl)
    have HW := Lib.hid (fun w' => way_impl hX w')
    clear hX
    go_enter Try.func20, Try.ntmps20
    go_wp2_with (go_at_call 22; refine (HW.out _).mono ?_; rintro e w1 ⟨v, rfl, hr, hb⟩; have HB := Lib.hid hb; clear hb hr)
    go_ret2
    exact ⟨by rw [HS.out]; rfl, HB.out⟩
  | some l =>
    have HS := Lib.hid (show RStepsTo n = some ((l.length : Int) - 1) by rw [RStepsTo, hX]; rfl)
    have HW := Lib.hid (fun w' => way_impl hX w')
    obtain ⟨l1, l2, _⟩ := way_props hX
    clear hX
    go_enter Try.func20, Try.ntmps20
    go_wp2_with (go_at_call 22; refine (HW.out _).mono ?_; rintro e w1 ⟨v, rfl, hr, hb⟩; have HB := Lib.hid hb; obtain ⟨a5, c5, rfl⟩ := hr.sl.len; clear hb hr)
    go_ret2
    exact ⟨by rw [HS.out]; first | rfl | (simp [optRes]; done) | go_num, HB.out⟩

theorem spec_StepsTo (n : Int) (w : World) :
    Calls Try.prog 19 #[.int .i64 n] w fun e w' => e = .returned (optRes (RStepsTo n)) ∧ Below w.heap.size w w' := by
  by_cases hn : Nst n
  · have a1 : decide (Nst n) = true := decide_eq_true hn
    cases hX : way n with
    | none =>
      have HS := Lib.hid (show RStepsTo n = none by rw [RStepsTo, hX]; rfl)
      have HW := Lib.hid (fun w' => way_spec hX hn w')
      clear hX hn
      go_enter Try.func19, Try.ntmps19
      go_wp2_with (first | (go_at_call 51; refine (stNumber_any _ _).mono ?_; rintro e w1 ⟨rfl, rfl⟩) | (go_at_call 56; refine (HW.out _).mono ?_; rintro e w1 ⟨v, rfl, hr, hb⟩; have HB := Lib.hid hb; clear hb hr))
      go_ret2
      exact ⟨by rw [HS.out]; rfl, HB.out⟩
    | some l =>
      have HS := Lib.hid (show RStepsTo n = some ((l.length : Int) - 1) by rw [RStepsTo, hX]; rfl)
      have HW := Lib.hid (fun w' => way_spec hX hn w')
      obtain ⟨l1, l2, _⟩ := way_props hX
      clear hX hn
      go_enter Try.func19, Try.ntmps19
      go_wp2_with (first | (go_at_call 51; refine (stNumber_any _ _).mono ?_; rintro e w1 ⟨rfl, rfl⟩) | (go_at_call 56; refine (HW.out _).mono ?_; rintro e w1 ⟨v, rfl, hr, hb⟩; have HB := Lib.hid hb; obtain ⟨a5, c5, rfl⟩ := hr.sl.len; clear hb hr))
      go_ret2
      exact ⟨by rw [HS.out]; first | rfl | (simp [optRes]; done) | go_num, HB.out⟩
  · have a1 : decide (Nst n) = false := decide_eq_false hn
    have HS := Lib.hid (show RStepsTo n = none by rw [RStepsTo, way_no hn]; rfl)
    clear hn
    go_enter Try.func19, Try.ntmps19
    go_wp2_with (go_at_call 51; refine (stNumber_any _ _).mono ?_; rintro e w1 ⟨rfl, rfl⟩)
    go_ret2
    exact ⟨by rw [HS.out]; rfl, Below.refl _ _⟩

theorem mxL_max (l : List Int) (h : 1 ≤ l.length) (ha : ∀ x ∈ l, Nst x) : Lib.maxOf (l.take l.length) = mxL l := by
  rw [List.take_of_length_le (Nat.le_refl _)]
  cases l with
  | nil => simp at h
  | cons a t =>
    have := (ha a (by simp)).1
    unfold Lib.maxOf mxL
    simp only [List.headD_cons, List.foldl_cons]
    rw [show max 0 a = a by omega, show max a a = a by omega]

theorem impl_GreatestOn (n : Int) (w : World) :
    Calls Try.prog 27 #[.int .i64 n] w fun e w' => e = .returned (optRes (RGreatestOn n)) ∧ Below w.heap.size w w' := by
  cases hX : way n with
  | none =>
    have HS := Lib.hid (show RGreatestOn n = none by rw [RGreatestOn, hX]; rfl)
    have HW := Lib.hid (fun w' => way_impl hX w')
    clear hX
    go_enter Try.func27, Try.ntmps27
    go_wp2_with (go_at_call 22; refine (HW.out _).mono ?_; rintro e w1 ⟨v, rfl, hr, hb⟩; have HB := Lib.hid hb; clear hb hr)
    go_ret2
    exact ⟨by rw [HS.out]; rfl, HB.out⟩
  | some l =>
    have HS := Lib.hid (show RGreatestOn n = some (mxL l) by rw [RGreatestOn, hX]; rfl)
    have HW := Lib.hid (fun w' => way_impl hX w')
    obtain ⟨l1, l2, l3⟩ := way_props hX
    have HMX := Lib.hid (mxL_max l l1 l3)
    clear hX l3
    go_enter Try.func27, Try.ntmps27
    go_wp2_with fail
    refine (HW.out _).mono ?_
    rintro e w1 ⟨v, rfl, hr, hb⟩
    have HB := Lib.hid hb
    obtain ⟨g5, c5, rfl⟩ : ∃ g cap, v = .slice (some ⟨g, 0, none⟩) l.length cap := by
      rcases hr.cases with ⟨_, hx⟩ | ⟨g, cap, hu, _⟩
      · simp only [Option.getD_some] at hx
        rw [hx] at l1
        simp at l1
      · exact ⟨g, cap, hu⟩
    have HCS := Lib.hid (show ∀ j, j < l.length → w1.cell? ⟨g5, 0 + j, none⟩ = some (.int .i64 (l.getD j 0)) from fun j hj => by
      rw [Nat.zero_add, hr.at.2.2.2.2.1 j hj]; simp [hj])
    clear hb hr
    go_wp2_with (go_at_call 61; refine (Try.slices_Max_int g5 0 l.length c5 l _ (by omega) (Nat.le_refl _) (by omega) HCS.out).mono ?_; rw [HMX.out]; rintro e w4 ⟨rfl, rfl⟩)
    go_ret2
    exact ⟨by rw [HS.out]; rfl, HB.out⟩

theorem l1Most_i (a b : Int) (w : World) : Calls Try.prog 60 #[.int .i64 a, .int .i64 b] w fun e w' => e = .returned (.int .i64 (max a b)) ∧ w = w' := by
  by_cases h : b < a
  · have hm : max a b = a := by omega
    rw [hm]
    go_enter Try.func60, Try.ntmps60
    go_wp2
    go_ret
    exact ⟨rfl, rfl⟩
  · have hm : max a b = b := by omega
    rw [hm]
    go_enter Try.func60, Try.ntmps60
    go_wp2
    go_ret
    exact ⟨rfl, rfl⟩

theorem fold_take (l : List Int) (j : Nat) (h : j < l.length) : (l.take (j + 1)).foldl max 0 = max ((l.take j).foldl max 0) l[j] := by
  rw [take_snoc' l j h, List.foldl_append]; rfl

theorem spec_GreatestOn (n : Int) (w : World) :
    Calls Try.prog 26 #[.int .i64 n] w fun e w' => e = .returned (optRes (RGreatestOn n)) ∧ Below w.heap.size w w' := by
  by_cases hn : Nst n
  · have a1 : decide (Nst n) = true := decide_eq_true hn
    cases hX : way n with
    | none =>
      have HS := Lib.hid (show RGreatestOn n = none by rw [RGreatestOn, hX]; rfl)
      have HW := Lib.hid (fun w' => way_spec hX hn w')
      clear hX hn
      go_enter Try.func26, Try.ntmps26
      go_wp2_with (first | (go_at_call 51; refine (stNumber_any _ _).mono ?_; rintro e w1 ⟨rfl, rfl⟩) | (go_at_call 56; refine (HW.out _).mono ?_; rintro e w1 ⟨v, rfl, hr, hb⟩; have HB := Lib.hid hb; obtain ⟨a5, c5, rfl⟩ := hr.sl.len; clear hb hr))
      refine wp_loop_rounds 1 ?_
      rw [rounds_succ]
      go_wp2
      go_ret2
      exact ⟨by rw [HS.out]; rfl, HB.out⟩
    | some l =>
      have HS := Lib.hid (show RGreatestOn n = some (mxL l) by rw [RGreatestOn, hX]; rfl)
      have HW := Lib.hid (fun w' => way_spec hX hn w')
      obtain ⟨l1, l2, l3⟩ := way_props hX
      clear hX hn l3
      go_enter Try.func26, Try.ntmps26
      go_wp2_with (go_at_call 51; refine (stNumber_any _ _).mono ?_; rintro e w1 ⟨rfl, rfl⟩)
      refine (HW.out _).mono ?_
      rintro e w1 ⟨v, rfl, hr, hb⟩
      have HB := Lib.hid hb
      obtain ⟨g5, c5, rfl⟩ : ∃ g cap, v = .slice (some ⟨g, 0, none⟩) l.length cap := by
        rcases hr.cases with ⟨_, hx⟩ | ⟨g, cap, hu, _⟩
        · simp only [Option.getD_some] at hx
          rw [hx] at l1
          simp at l1
        · exact ⟨g, cap, hu⟩
      have HC := Lib.hid (show ∀ j (hj : j < l.length), w1.cell? ⟨g5, j, none⟩ = some (.int .i64 l[j]) from fun j hj => hr.at.2.2.2.2.1 j hj)
      clear hb hr
      go_wp2
      go_loop [6, 19] (fun m i => ∃ j : Nat, j ≤ l.length ∧ i = .int .i64 j ∧ m = .int .i64 ((l.take j).foldl max 0)) (fun _ i => l.length - (intOf i).toNat)
      case atStart => exact ⟨0, Nat.zero_le _, rfl, rfl⟩
      case round =>
        obtain ⟨j, hj, rfl, rfl⟩ := hrel
        by_cases hlt : j < l.length
        · have HF := Lib.hid (fold_take l j hlt)
          have hcell := HC.out j hlt
          obtain ⟨x, hx⟩ : ∃ x, x = l[j] := ⟨_, rfl⟩
          rw [← hx] at HF hcell
          clear hx
          obtain ⟨y, hy⟩ : ∃ y, y = (l.take j).foldl max 0 := ⟨_, rfl⟩
          rw [← hy] at HF ⊢
          clear hy
          go_wp2_with (go_at_call 60; refine (l1Most_i _ _ _).mono ?_; rintro e w1 ⟨rfl, rfl⟩)
          go_round
          case rel => exact ⟨j + 1, by omega, by go_num, by rw [HF.out]⟩
          case measure => simp [intOf]; omega
        · obtain rfl : j = l.length := by omega
          have HF := Lib.hid (show (l.take l.length).foldl max 0 = mxL l by rw [List.take_of_length_le (Nat.le_refl _)]; rfl)
          rw [HF.out]
          go_wp2
          go_ret2
          exact ⟨by rw [HS.out]; rfl, HB.out⟩
  · have a1 : decide (Nst n) = false := decide_eq_false hn
    have HS := Lib.hid (show RGreatestOn n = none by rw [RGreatestOn, way_no hn]; rfl)
    clear hn
    go_enter Try.func26, Try.ntmps26
    go_wp2_with (go_at_call 51; refine (stNumber_any _ _).mono ?_; rintro e w1 ⟨rfl, rfl⟩)
    go_ret2
    exact ⟨by rw [HS.out]; rfl, Below.refl _ _⟩

theorem law_StepsTo (n : Int) (w : World) :
    Calls Try.prog 4 #[.int .i64 n] w fun e w' => e = .returned (.bool true) ∧ Below w.heap.size w w' := by
  go_enter Try.func4, Try.ntmps4
  go_wp2_with (first | (go_at_call 19; refine (spec_StepsTo _ _).mono ?_; rintro e w1 ⟨rfl, hbl⟩; have HB1 := Lib.hid hbl; clear hbl) | (go_at_call 20; refine (impl_StepsTo _ _).mono ?_; rintro e w2 ⟨rfl, hbl⟩; have HB2 := Lib.hid hbl; clear hbl))
  go_ret
  exact ⟨by simp, Below.step HB1.out HB1.out.size HB2.out⟩

theorem law_GreatestOn (n : Int) (w : World) :
    Calls Try.prog 6 #[.int .i64 n] w fun e w' => e = .returned (.bool true) ∧ Below w.heap.size w w' := by
  go_enter Try.func6, Try.ntmps6
  go_wp2_with (first | (go_at_call 26; refine (spec_GreatestOn _ _).mono ?_; rintro e w1 ⟨rfl, hbl⟩; have HB1 := Lib.hid hbl; clear hbl) | (go_at_call 27; refine (impl_GreatestOn _ _).mono ?_; rintro e w2 ⟨rfl, hbl⟩; have HB2 := Lib.hid hbl; clear hbl))
  go_ret
  exact ⟨by simp, Below.step HB1.out HB1.out.size HB2.out⟩

end Go.Proofs.Ytbgnieajeipllaa
