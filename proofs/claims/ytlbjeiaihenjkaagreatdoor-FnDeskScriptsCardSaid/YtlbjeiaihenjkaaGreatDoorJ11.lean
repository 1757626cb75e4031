/-
  Joint text of YF, YG, UA: what each proves stands ahead of it.
-/
import Derived.Test.YtlbjeiaihenjkaaGreatDoorJ06
import Derived.Test.YtlbjeiaihenjkaaGreatDoorJ07
import Derived.Test.YtlbjeiaihenjkaaGreatDoorJ01
/- from YF: Runs to an end: the program's search with the ends of WayToOne and FallsBelow, the model's ways (written by wip/tools/gen_yf.py).  -/
namespace Go.Proofs.YtlbjeiaihenjkaaGreatDoor
open Go.RowKit
set_option linter.unusedVariables false
set_option linter.unusedSimpArgs false
set_option maxRecDepth 100000

def lenOf : Value → Nat
  | .slice _ n _ => n
  | _ => 0

theorem Rd.lit1 (w : World) (o : Obj) (q : Int) : Rd ((w.alloc o).alloc (.cells #[.int .i64 q] 3)) (w.heap.size + 1) (.slice (some ⟨w.heap.size + 1, 0, none⟩) 1 1) [q] := by
  have h := Rd.litB (w.alloc o) (w.heap.size + 1) q (by simp)
  rw [show (w.alloc o).heap.size = w.heap.size + 1 by simp] at h
  exact h

theorem keepsB {B : Nat} {w w' : World} (h : Below B w w') {a : Addr} {u : Value} (hc : w.cell? a = some u) (hl : a.block < B) : w'.cell? a = some u := by
  rw [h.cell (p := a) hl]
  exact hc

theorem isOne_any (m : Int) (w : World) : Calls Tryz.prog 229 #[.int .i64 m] w fun e w' => e = .returned (.bool (E1 m)) ∧ w = w' := by
  have HE := Lib.hid (show E1 m = decide (m = 1) from rfl)
  go_enter Tryz.func229, Tryz.ntmps229
  go_wp2
  go_ret
  exact ⟨by rw [HE.out]; simp [Bool.beq_eq_decide_eq], rfl⟩

theorem lenOf_rd {w : World} {B : Nat} {v : Value} {xs : List Int} (h : Rd w B v xs) : lenOf v = xs.length := by
  obtain ⟨a, c, rfl⟩ := h.sl.len
  rfl

theorem run_one  (d m0 : Int) (g : Nat) (w : World) (h0 : Nst m0) (d0 : 0 ≤ d) (d1 : d ≤ 99) (hc : w.cell? ⟨g, 0, none⟩ = some (.int .i64 d)) :
    Calls Tryz.prog 230 #[.agg #[stepV g, .func (.func 229) #[] #[]], .int .i64 m0] w fun e w' => ∃ v, e = .returned (.tuple #[v, .bool (wlk (E1) d 1000 m0).isSome]) ∧ Rd w' w.heap.size v ((wlk (E1) d 1000 m0).getD []) ∧ Below w.heap.size w w' := by
  obtain ⟨X, hX⟩ : ∃ X, X = wlk (E1) d 1000 m0 := ⟨_, rfl⟩
  have HX := Lib.hid hX
  rw [← hX]
  clear hX
  have HC := Lib.hid hc
  clear hc
  have HB0 := Lib.hid (show Below w.heap.size w (w.alloc (.cells #[stepV g, .func (.func 229) #[] #[]] 212)) from al_below _ _)
  have HS0 := Lib.hid (show (w.alloc (.cells #[stepV g, .func (.func 229) #[] #[]] 212)).cell? ⟨w.heap.size, 0, none⟩ = some (stepV g) by simp [go_sem])
  have HS1 := Lib.hid (show (w.alloc (.cells #[stepV g, .func (.func 229) #[] #[]] 212)).cell? ⟨w.heap.size, 1, none⟩ = some (.func (.func 229) #[] #[]) by simp [go_sem])
  have HN0 := Lib.hid h0
  clear h0
  go_enter Tryz.func230, Tryz.ntmps230
  go_wp2
  go_loopw [6, 7] (fun o i wr => ∃ (m : Int) (pre : List Int), i = .int .i64 m ∧ Hid (Nst m) ∧ pre.length ≤ 1000 ∧ lenOf o = pre.length + 1 ∧ Rd wr (w.heap.size + 1) o (pre ++ [m]) ∧ Hid (jn pre (wlk (E1) d (1000 - pre.length) m) = X) ∧ Below w.heap.size w wr ∧ wr.cell? ⟨w.heap.size, 0, none⟩ = some (stepV g) ∧ wr.cell? ⟨w.heap.size, 1, none⟩ = some (.func (.func 229) #[] #[])) (fun o _ _ => 1001 - lenOf o)
  case atStart => exact ⟨m0, [], rfl, Lib.hid HN0.out, by simp, rfl, Rd.lit1 _ _ _, Lib.hid (by rw [jn_nil, HX.out]; rfl), HB0.out.alloc HB0.out.size _, Below.keeps_cellY (al_below _ _) HS0.out, Below.keeps_cellY (al_below _ _) HS1.out⟩
  case round =>
    obtain ⟨m, pre, rfl, HM, hpl, hlo, hr, HE, hbl, cs, cd⟩ := hrel
    have HR := Lib.hid hr
    have HB := Lib.hid hbl
    have HCG := Lib.hid (Below.keeps_cellY hbl HC.out)
    have HCS := Lib.hid cs
    have hz := World.block_lt_of_cell? wr _ cs
    have HZ := Lib.hid hz
    clear hz
    have HCD := Lib.hid cd
    clear hr hbl
    obtain ⟨a6, c6, rfl⟩ := HR.out.sl.len
    obtain ⟨K, hK⟩ : ∃ K, K = (pre ++ [m]).length := ⟨_, rfl⟩
    have HK := Lib.hid (show pre.length + 1 = K by rw [hK]; simp)
    have hk1 : K ≤ 1001 := by have := HK.out; omega
    rw [← hK] at HR hlo ⊢
    clear hK hlo hpl
    obtain ⟨q, hq⟩ : ∃ q, q = (E1) m := ⟨_, rfl⟩
    have HQ := Lib.hid hq
    have m0' := HM.out.1
    have m1' := HM.out.2
    cases q with
    | true =>
      have HE2 := Lib.hid (show X = some (pre ++ [m]) by rw [← HE.out]; exact wlk_jn_end pre hq.symm)
      clear hq
      go_wp2_with ((go_at_call 229; refine (isOne_any _ _).mono ?_; rw [← HQ.out]; rintro e w1 ⟨rfl, rfl⟩))
      go_ret2
      exact ⟨_, by rw [HE2.out]; rfl, by rw [HE2.out]; exact HR.out.mono (Nat.le_succ _), HB.out⟩
    | false =>
      by_cases hs : Nst (stp d m)
      · by_cases hlt : K ≤ 1000
        · have HE2 := Lib.hid (wlk_jn_step (pre := pre) hq.symm hs (by have := HK.out; omega))
          have HS := Lib.hid (ledW_in HM.out hs)
          obtain ⟨z, hz⟩ : ∃ z, z = stp d m := ⟨_, rfl⟩
          have HNZ := Lib.hid hs
          rw [← hz] at HS HE2 HNZ
          clear hs hq hz
          have hlg2 : decide ((1000 : Int) < (K : Int)) = false := decide_eq_false (by omega)
          go_wp2_with (first | (go_at_call 229; refine (isOne_any _ _).mono ?_; rw [← HQ.out]; rintro e w1 ⟨rfl, rfl⟩) | (go_at_call 171; refine (lead_with _ d g _ d0 d1 HCG.out).mono ?_; rw [HS.out]; rintro e w1 ⟨rfl, rfl⟩) | (at_builtin; (refine wpList_appR rfl _ _ rfl (w.heap.size + 1) w.heap.size _ _ (pre ++ [m]) [z] rfl rfl (HR.out.alloc _) (Rd.litB _ _ _ HB.out.size) (by have := HK.out; simp; omega) (by have := HZ.out; simp; omega) ?_); intro v1 w2 hr1 hg1 hb2; have HR2 := Lib.hid hr1; have HBN := Lib.hid (((Below.refl (w.heap.size + 1) wr).alloc HZ.out _).trans hb2); have HB2 := Lib.hid (HB.out.trans (HBN.out.mono (Nat.le_succ _))); clear hr1 hg1 hb2))
          go_roundw
          case rel => exact ⟨z, pre ++ [m], rfl, Lib.hid HNZ.out, by have := HK.out; simp; omega, by rw [lenOf_rd HR2.out]; simp, HR2.out, Lib.hid (by rw [← HE.out, HE2.out]), HB2.out, keepsB HBN.out HCS.out (Nat.lt_succ_self _), keepsB HBN.out HCD.out (Nat.lt_succ_self _)⟩
          case measure => (rw [lenOf_rd HR2.out]; have := HK.out; simp [lenOf]; omega)
        · have HE2 := Lib.hid (show X = none by rw [← HE.out]; exact wlk_jn_long hq.symm (by have := HK.out; omega))
          have HS := Lib.hid (ledW_in HM.out hs)
          obtain ⟨z, hz⟩ : ∃ z, z = stp d m := ⟨_, rfl⟩
          rw [← hz] at HS
          clear hs hq hz
          have hlg2 : decide ((1000 : Int) < (K : Int)) = true := decide_eq_true (by omega)
          go_wp2_with (first | (go_at_call 229; refine (isOne_any _ _).mono ?_; rw [← HQ.out]; rintro e w1 ⟨rfl, rfl⟩) | (go_at_call 171; refine (lead_with _ d g _ d0 d1 HCG.out).mono ?_; rw [HS.out]; rintro e w1 ⟨rfl, rfl⟩))
          go_ret2
          exact ⟨_, by rw [HE2.out]; rfl, by rw [HE2.out]; exact Rd.nil _ _, HB.out⟩
      · have HE2 := Lib.hid (show X = none by rw [← HE.out]; exact wlk_jn_out pre hq.symm hs)
        have HS := Lib.hid (ledW_out HM.out hs)
        clear hs hq
        go_wp2_with (first | (go_at_call 229; refine (isOne_any _ _).mono ?_; rw [← HQ.out]; rintro e w1 ⟨rfl, rfl⟩) | (go_at_call 171; refine (lead_with _ d g _ d0 d1 HCG.out).mono ?_; rw [HS.out]; rintro e w1 ⟨rfl, rfl⟩))
        go_ret2
        exact ⟨_, by rw [HE2.out]; rfl, by rw [HE2.out]; exact Rd.nil _ _, HB.out⟩

end Go.Proofs.YtlbjeiaihenjkaaGreatDoor

/- from YG: Ways to 1, their lengths and greatest numbers, falls: the program's and the model's answers.  -/
namespace Go.Proofs.YtlbjeiaihenjkaaGreatDoor
open Go.RowKit
set_option linter.unusedVariables false
set_option linter.unusedSimpArgs false
set_option maxRecDepth 100000

theorem stWay_any (m0 : Int) (w : World) (h0 : Nst m0) :
    Calls Tryz.prog 158 #[.int .i64 m0] w fun e w' => ∃ v, e = .returned (.tuple #[v, .bool (wlk E1 1 1000 m0).isSome]) ∧ Rd w' w.heap.size v ((wlk E1 1 1000 m0).getD []) ∧ Below w.heap.size w w' := by
  obtain ⟨X, hX⟩ : ∃ X, X = wlk E1 1 1000 m0 := ⟨_, rfl⟩
  have HX := Lib.hid hX
  rw [← hX]
  clear hX
  have HN0 := Lib.hid h0
  clear h0
  go_enter Tryz.func158, Tryz.ntmps158
  go_wp2
  go_loopw [0, 4] (fun i o wr => ∃ (m : Int) (pre : List Int), i = .int .i64 m ∧ Hid (Nst m) ∧ pre.length ≤ 1000 ∧ lenOf o = pre.length + 1 ∧ Rd wr w.heap.size o (pre ++ [m]) ∧ Hid (jn pre (wlk E1 1 (1000 - pre.length) m) = X) ∧ Below w.heap.size w wr) (fun _ o _ => 1001 - lenOf o)
  case atStart => exact ⟨m0, [], rfl, Lib.hid HN0.out, by simp, rfl, Rd.litB _ _ _ (Nat.le_refl _), Lib.hid (by rw [jn_nil, HX.out]; rfl), al_below _ _⟩
  case round =>
    obtain ⟨m, pre, rfl, HM, hpl, hlo, hr, HE, hbl⟩ := hrel
    have HR := Lib.hid hr
    have HB := Lib.hid hbl
    clear hr hbl
    obtain ⟨a6, c6, rfl⟩ := HR.out.sl.len
    obtain ⟨K, hK⟩ : ∃ K, K = (pre ++ [m]).length := ⟨_, rfl⟩
    have HK := Lib.hid (show pre.length + 1 = K by rw [hK]; simp)
    have hk1 : K ≤ 1001 := by have := HK.out; omega
    rw [← hK] at HR hlo ⊢
    clear hK hlo hpl
    have m0' := HM.out.1
    have m1' := HM.out.2
    by_cases hq : m = 1
    · have HE2 := Lib.hid (show X = some (pre ++ [m]) by rw [← HE.out]; exact wlk_jn_end pre (decide_eq_true hq))
      have hq2 : (m != 1) = false := bne_no hq
      clear hq
      go_wp2
      go_ret2
      exact ⟨_, by rw [HE2.out]; rfl, by rw [HE2.out]; exact HR.out, HB.out⟩
    · have hq2 : (m != 1) = true := bne_yes hq
      have hE : E1 m = false := decide_eq_false hq
      by_cases hs : Nst (stp 1 m)
      · have a1 : decide (Nst (stp 1 m)) = true := decide_eq_true hs
        by_cases hlt : K ≤ 1000
        · have HE2 := Lib.hid (wlk_jn_step (pre := pre) hE hs (by have := HK.out; omega))
          have HNZ := Lib.hid hs
          have HSS := Lib.hid (fun w' => stStep_any m 1 w' (by omega) (by omega) (by omega) (by omega))
          obtain ⟨z, hz⟩ : ∃ z, z = stp 1 m := ⟨_, rfl⟩
          rw [← hz] at a1 HE2 HNZ HSS
          clear hs hq hz hE
          have hlg2 : decide ((1000 : Int) < (K : Int)) = false := decide_eq_false (by omega)
          go_wp2_with (first | (go_at_call 149; refine (HSS.out _).mono ?_; rintro e w1 ⟨rfl, rfl⟩) | (go_at_call 147; refine (stNumber_any _ _).mono ?_; rintro e w1 ⟨rfl, rfl⟩) | (at_builtin; refine wpList_appR rfl _ _ rfl w.heap.size w.heap.size _ _ (pre ++ [m]) [z] rfl rfl (HR.out.alloc _) (Rd.litB _ _ _ HB.out.size) (by have := HK.out; simp; omega) (by have := HB.out.size; simp; omega) ?_; intro v1 w2 hr1 hg1 hb2; have HR2 := Lib.hid hr1; have HB2 := Lib.hid ((HB.out.alloc HB.out.size _).trans hb2); clear hr1 hg1 hb2))
          go_roundw
          case rel => exact ⟨z, pre ++ [m], rfl, Lib.hid HNZ.out, by have := HK.out; simp; omega, by rw [lenOf_rd HR2.out]; simp, HR2.out, Lib.hid (by rw [← HE.out, HE2.out]), HB2.out⟩
          case measure => (rw [lenOf_rd HR2.out]; have := HK.out; simp [lenOf]; omega)
        · have HE2 := Lib.hid (show X = none by rw [← HE.out]; exact wlk_jn_long hE (by have := HK.out; omega))
          have HSS := Lib.hid (fun w' => stStep_any m 1 w' (by omega) (by omega) (by omega) (by omega))
          obtain ⟨z, hz⟩ : ∃ z, z = stp 1 m := ⟨_, rfl⟩
          rw [← hz] at a1 HSS
          clear hs hq hz hE
          have hlg2 : decide ((1000 : Int) < (K : Int)) = true := decide_eq_true (by omega)
          go_wp2_with (first | (go_at_call 149; refine (HSS.out _).mono ?_; rintro e w1 ⟨rfl, rfl⟩) | (go_at_call 147; refine (stNumber_any _ _).mono ?_; rintro e w1 ⟨rfl, rfl⟩))
          go_ret2
          exact ⟨_, by rw [HE2.out]; rfl, by rw [HE2.out]; exact Rd.nil _ _, HB.out⟩
      · have a1 : decide (Nst (stp 1 m)) = false := decide_eq_false hs
        have HE2 := Lib.hid (show X = none by rw [← HE.out]; exact wlk_jn_out pre hE hs)
        have HSS := Lib.hid (fun w' => stStep_any m 1 w' (by omega) (by omega) (by omega) (by omega))
        obtain ⟨z, hz⟩ : ∃ z, z = stp 1 m := ⟨_, rfl⟩
        rw [← hz] at a1 HSS
        clear hs hq hz hE
        go_wp2_with (first | (go_at_call 149; refine (HSS.out _).mono ?_; rintro e w1 ⟨rfl, rfl⟩) | (go_at_call 147; refine (stNumber_any _ _).mono ?_; rintro e w1 ⟨rfl, rfl⟩))
        go_ret2
        exact ⟨_, by rw [HE2.out]; rfl, by rw [HE2.out]; exact Rd.nil _ _, HB.out⟩

def OK_way (n : Int) : Bool := (way n).isSome

theorem impl_WayToOne (n : Int) (w : World) :
    Calls Tryz.prog 183 #[.int .i64 n] w fun e w' => ∃ v, e = .returned (.tuple #[v, .bool (OK_way n)]) ∧ Rd w' w.heap.size v (LF_WayToOne n) ∧ Below w.heap.size w w' := by
  by_cases hn : Nst n
  · have a1 : decide (Nst n) = true := decide_eq_true hn
    have HO := Lib.hid (show OK_way n = (wlk E1 1 1000 n).isSome by rw [OK_way, way_in hn])
    have HL := Lib.hid (show LF_WayToOne n = (wlk E1 1 1000 n).getD [] by rw [LF_WayToOne, way_in hn])
    have HN := Lib.hid hn
    clear hn
    rw [HO.out, HL.out]
    go_enter Tryz.func183, Tryz.ntmps183
    go_wp2_with (first | (go_at_call 216; refine (isStart_any _ _).mono ?_; rintro e w1 ⟨rfl, rfl⟩) | (go_at_call 172; refine (stepWith_any _ _).mono ?_; rintro e w1 ⟨g, rfl, hg, hc, hb⟩; have HB := Lib.hid hb; clear hb) | (go_at_call 230; refine (run_one 1 n g _ HN.out (by omega) (by omega) hc).mono ?_; rintro e w2 ⟨v, rfl, hr, hb⟩; have HR := Lib.hid (hr.mono HB.out.size); have HB2 := Lib.hid (Below.step HB.out HB.out.size hb); clear hr hb))
    go_ret2
    exact ⟨v, rfl, HR.out, HB2.out⟩
  · have a1 : decide (Nst n) = false := decide_eq_false hn
    have HO := Lib.hid (show OK_way n = false by rw [OK_way, way_no hn]; rfl)
    have HL := Lib.hid (show LF_WayToOne n = [] by rw [LF_WayToOne, way_no hn]; rfl)
    clear hn
    rw [HO.out, HL.out]
    go_enter Tryz.func183, Tryz.ntmps183
    go_wp2_with (go_at_call 216; refine (isStart_any _ _).mono ?_; rintro e w1 ⟨rfl, rfl⟩)
    go_ret2
    exact ⟨_, rfl, Rd.nil _ _, Below.refl _ _⟩

/-- The way that a call tells, as a letter. -/
theorem way_impl {n : Int} {X : Option (List Int)} (h : way n = X) (w : World) :
    Calls Tryz.prog 183 #[.int .i64 n] w fun e w' => ∃ v, e = .returned (.tuple #[v, .bool X.isSome]) ∧ Rd w' w.heap.size v (X.getD []) ∧ Below w.heap.size w w' := by
  rw [← h]; exact impl_WayToOne n w
theorem way_spec {n : Int} {X : Option (List Int)} (h : way n = X) (hn : Nst n) (w : World) :
    Calls Tryz.prog 158 #[.int .i64 n] w fun e w' => ∃ v, e = .returned (.tuple #[v, .bool X.isSome]) ∧ Rd w' w.heap.size v (X.getD []) ∧ Below w.heap.size w w' := by
  rw [← h, way_in hn]; exact stWay_any n w hn

theorem impl_StepsTo (n : Int) (w : World) :
    Calls Tryz.prog 127 #[.int .i64 n] w fun e w' => e = .returned (optRes (RStepsTo n)) ∧ Below w.heap.size w w' := by
  cases hX : way n with
  | none =>
    have HS := Lib.hid (show RStepsTo n = none by rw [RStepsTo, hX]; rfl)
    have HW := Lib.hid (fun w' => way_impl hX w')
    clear hX
    go_enter Tryz.func127, Tryz.ntmps127
    go_wp2_with (go_at_call 183; refine (HW.out _).mono ?_; rintro e w1 ⟨v, rfl, hr, hb⟩; have HB := Lib.hid hb; clear hb hr)
    go_ret2
    exact ⟨by rw [HS.out]; rfl, HB.out⟩
  | some l =>
    have HS := Lib.hid (show RStepsTo n = some ((l.length : Int) - 1) by rw [RStepsTo, hX]; rfl)
    have HW := Lib.hid (fun w' => way_impl hX w')
    obtain ⟨l1, l2, _⟩ := way_props hX
    clear hX
    go_enter Tryz.func127, Tryz.ntmps127
    go_wp2_with (go_at_call 183; refine (HW.out _).mono ?_; rintro e w1 ⟨v, rfl, hr, hb⟩; have HB := Lib.hid hb; obtain ⟨a5, c5, rfl⟩ := hr.sl.len; clear hb hr)
    go_ret2
    exact ⟨by rw [HS.out]; first | rfl | (simp [optRes]; done) | go_num, HB.out⟩

theorem spec_StepsTo (n : Int) (w : World) :
    Calls Tryz.prog 107 #[.int .i64 n] w fun e w' => e = .returned (optRes (RStepsTo n)) ∧ Below w.heap.size w w' := by
  by_cases hn : Nst n
  · have a1 : decide (Nst n) = true := decide_eq_true hn
    cases hX : way n with
    | none =>
      have HS := Lib.hid (show RStepsTo n = none by rw [RStepsTo, hX]; rfl)
      have HW := Lib.hid (fun w' => way_spec hX hn w')
      clear hX hn
      go_enter Tryz.func107, Tryz.ntmps107
      go_wp2_with (first | (go_at_call 147; refine (stNumber_any _ _).mono ?_; rintro e w1 ⟨rfl, rfl⟩) | (go_at_call 158; refine (HW.out _).mono ?_; rintro e w1 ⟨v, rfl, hr, hb⟩; have HB := Lib.hid hb; clear hb hr))
      go_ret2
      exact ⟨by rw [HS.out]; rfl, HB.out⟩
    | some l =>
      have HS := Lib.hid (show RStepsTo n = some ((l.length : Int) - 1) by rw [RStepsTo, hX]; rfl)
      have HW := Lib.hid (fun w' => way_spec hX hn w')
      obtain ⟨l1, l2, _⟩ := way_props hX
      clear hX hn
      go_enter Tryz.func107, Tryz.ntmps107
      go_wp2_with (first | (go_at_call 147; refine (stNumber_any _ _).mono ?_; rintro e w1 ⟨rfl, rfl⟩) | (go_at_call 158; refine (HW.out _).mono ?_; rintro e w1 ⟨v, rfl, hr, hb⟩; have HB := Lib.hid hb; obtain ⟨a5, c5, rfl⟩ := hr.sl.len; clear hb hr))
      go_ret2
      exact ⟨by rw [HS.out]; first | rfl | (simp [optRes]; done) | go_num, HB.out⟩
  · have a1 : decide (Nst n) = false := decide_eq_false hn
    have HS := Lib.hid (show RStepsTo n = none by rw [RStepsTo, way_no hn]; rfl)
    clear hn
    go_enter Tryz.func107, Tryz.ntmps107
    go_wp2_with (go_at_call 147; refine (stNumber_any _ _).mono ?_; rintro e w1 ⟨rfl, rfl⟩)
    go_ret2
    exact ⟨by rw [HS.out]; rfl, Below.refl _ _⟩

theorem mxL_max (l : List Int) (h : 1 ≤ l.length) (ha : ∀ x ∈ l, Nst x) : Lib.maxOf (l.take l.length) = mxL l := by
  rw [List.take_of_length_le (Nat.le_refl _)]
  cases l with
  | nil => simp at h
  | cons a t =>
    have := (ha a (by simp)).1
    unfold Lib.maxOf mxL
    simp only [List.headD_cons, List.foldl_cons]
    rw [show max 0 a = a by omega, show max a a = a by omega]

theorem fold_take (l : List Int) (j : Nat) (h : j < l.length) : (l.take (j + 1)).foldl max 0 = max ((l.take j).foldl max 0) l[j] := by
  rw [take_snoc' l j h, List.foldl_append]; rfl

end Go.Proofs.YtlbjeiaihenjkaaGreatDoor

/- from UA: Sums of powers of digits: plain mathematics.  -/
namespace Go.Proofs.YtlbjeiaihenjkaaGreatDoor
set_option linter.unusedVariables false
set_option linter.unusedSimpArgs false

/-- The power sum of a number, its last digit first. -/
def ps (b p n : Nat) : Nat := if h : 2 ≤ b ∧ 0 < n then (n % b) ^ p + ps b p (n / b) else 0
termination_by n
decreasing_by exact Nat.div_lt_self h.2 (by omega)

theorem ps_zero (b p : Nat) : ps b p 0 = 0 := by
  rw [ps]; simp

theorem ps_step {b n : Nat} (p : Nat) (hb : 2 ≤ b) (hn : 0 < n) : ps b p n = (n % b) ^ p + ps b p (n / b) := by
  rw [ps, dif_pos ⟨hb, hn⟩]

/-- The sum of the powers of the numbers of a list. -/
def psl (p : Nat) (xs : List Int) : Nat := (xs.map fun d => d.toNat ^ p).sum

theorem psl_append (p : Nat) (xs ys : List Int) : psl p (xs ++ ys) = psl p xs + psl p ys := by simp [psl]
theorem psl_cons (p : Nat) (x : Int) (xs : List Int) : psl p (x :: xs) = x.toNat ^ p + psl p xs := by simp [psl]
theorem psl_nil (p : Nat) : psl p [] = 0 := rfl
theorem psl_reverse (p : Nat) (xs : List Int) : psl p xs.reverse = psl p xs := by
  induction xs with
  | nil => rfl
  | cons x xs ih => rw [List.reverse_cons, psl_append, ih, psl_cons, psl_cons, psl_nil]; omega
theorem psl_snoc (p : Nat) (xs : List Int) (k : Nat) (h : k < xs.length) : psl p (xs.take (k + 1)) = psl p (xs.take k) + xs[k].toNat ^ p := by
  rw [take_snoc' xs k h, psl_append, psl_cons, psl_nil]; omega
theorem psl_take_le (p : Nat) (xs : List Int) (k : Nat) : psl p (xs.take k) ≤ psl p xs := by
  have := psl_append p (xs.take k) (xs.drop k)
  rw [List.take_append_drop] at this
  omega

theorem psl_lft {b : Nat} (p : Nat) (hb : 2 ≤ b) : ∀ (N n : Nat), n ≤ N → psl p (lft (b : Int) (n : Int)) = ps b p n := by
  intro N
  induction N with
  | zero =>
    intro n hn
    obtain rfl : n = 0 := by omega
    rw [ps_zero]; rfl
  | succ N ih =>
    intro n hn
    by_cases h0 : n = 0
    · subst h0; rw [ps_zero]; rfl
    · have hlt : n / b < n := Nat.div_lt_self (by omega) (by omega)
      rw [lft_step (b : Int) (n : Int) (by omega) (by omega), psl_cons, ps_step p hb (by omega), ← ih (n / b) (by omega)]
      have e1 : ((n : Int) % (b : Int)).toNat = n % b := by rw [← Int.natCast_emod]; rfl
      have e2 : (n : Int) / (b : Int) = ((n / b : Nat) : Int) := (Int.natCast_ediv n b).symm
      rw [e1, e2]

theorem psl_dgs {b p : Nat} (hb : 2 ≤ b) (hp : 1 ≤ p) (n : Nat) : psl p (dgs (b : Int) (n : Int)) = ps b p n := by
  rw [dgs, psl_reverse]
  by_cases h0 : n = 0
  · subst h0
    have : revD (b : Int) ((0 : Nat) : Int) = [0] := revD_zero (b : Int) (by omega)
    rw [this, ps_zero, psl_cons, psl_nil]
    have : (0 : Int).toNat ^ p = 0 := Nat.zero_pow (by omega)
    omega
  · rw [← psl_lft p hb n n (Nat.le_refl _), lft, if_neg (by omega)]

theorem ps_le {b : Nat} (p : Nat) (hb : 2 ≤ b) : ∀ (k n : Nat), n < b ^ k → ps b p n ≤ k * (b - 1) ^ p := by
  intro k
  induction k with
  | zero => intro n hn; obtain rfl : n = 0 := by simpa using hn
            rw [ps_zero]; omega
  | succ k ih =>
    intro n hn
    by_cases h0 : n = 0
    · subst h0; rw [ps_zero]; omega
    · rw [ps_step p hb (by omega)]
      have h1 := ih (n / b) (by rw [Nat.div_lt_iff_lt_mul (by omega)]; rw [Nat.pow_succ] at hn; exact hn)
      have h2 : n % b ≤ b - 1 := by have := Nat.mod_lt n (show b > 0 by omega); omega
      have h3 := Nat.pow_le_pow_left h2 p
      rw [Nat.succ_mul]
      omega

theorem big_lt {b n : Nat} (hb : 2 ≤ b) (hn : n ≤ 1000000000000) : n < b ^ 40 := by
  have h1 := Nat.pow_le_pow_left hb 40
  have h2 : 2 ^ 40 = 1099511627776 := by decide
  omega

theorem pow_le8 {x p : Nat} (hx : x ≤ 15) (hp : p ≤ 8) : x ^ p ≤ 2562890625 := by
  have h1 := Nat.pow_le_pow_left hx p
  have h2 := Nat.pow_le_pow_right (show 0 < 15 by omega) hp
  have h3 : 15 ^ 8 = 2562890625 := by decide
  omega

theorem pow_le4 {x p : Nat} (hx : x ≤ 15) (hp : p ≤ 4) : x ^ p ≤ 50625 := by
  have h1 := Nat.pow_le_pow_left hx p
  have h2 := Nat.pow_le_pow_right (show 0 < 15 by omega) hp
  have h3 : 15 ^ 4 = 50625 := by decide
  omega

theorem ps_le8 {b p n : Nat} (hb : 2 ≤ b) (hb' : b ≤ 16) (hp : p ≤ 8) (hn : n ≤ 1000000000000) : ps b p n ≤ 102515625000 := by
  have h1 := ps_le p hb 40 n (big_lt hb hn)
  have h2 := pow_le8 (show b - 1 ≤ 15 by omega) hp
  omega

theorem ps_le4 {b p n : Nat} (hb : 2 ≤ b) (hb' : b ≤ 16) (hp : p ≤ 4) (hn : n ≤ 1000000000000) : ps b p n ≤ 1012500 := by
  by_cases h4 : 4 ≤ b
  · have h0 := Nat.pow_le_pow_left h4 20
    have h3 : 4 ^ 20 = 1099511627776 := by decide
    have h1 := ps_le p hb 20 n (by omega)
    have h2 := pow_le4 (show b - 1 ≤ 15 by omega) hp
    omega
  · have h1 := ps_le p hb 40 n (big_lt hb hn)
    have h2 := Nat.pow_le_pow_left (show b - 1 ≤ 2 by omega) p
    have h3 := Nat.pow_le_pow_right (show 0 < 2 by omega) hp
    have h4 : 2 ^ 4 = 16 := by decide
    omega

theorem ps_pos {b p n : Nat} (hb : 2 ≤ b) : ∀ N, n ≤ N → 0 < n → 0 < ps b p n := by
  intro N
  induction N generalizing n with
  | zero => intro h1 h2; omega
  | succ N ih =>
    intro h1 h2
    rw [ps_step p hb h2]
    by_cases h0 : n % b = 0
    · have hlt : n / b < n := Nat.div_lt_self h2 (by omega)
      have hpos : 0 < n / b := Nat.div_pos (by have := Nat.div_add_mod n b; by_cases h : n < b
                                               · rw [Nat.mod_eq_of_lt h] at h0; omega
                                               · omega) (by omega)
      have := ih (n := n / b) (by omega) hpos
      omega
    · have : 0 < (n % b) ^ p := Nat.pow_pos (by omega)
      omega

/-- Who may ask for a power. -/
def Pow (p : Int) (m : Int) : Prop := 1 ≤ p ∧ p ≤ m
instance (p m : Int) : Decidable (Pow p m) := by unfold Pow; infer_instance

end Go.Proofs.YtlbjeiaihenjkaaGreatDoor
