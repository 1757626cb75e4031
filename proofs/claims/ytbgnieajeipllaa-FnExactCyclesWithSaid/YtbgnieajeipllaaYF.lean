/-
  Runs to an end: the program's search with the ends of WayToOne and FallsBelow, the model's ways (written by wip/tools/gen_yf.py).
-/
import Derived.Test.YtbgnieajeipllaaYE
namespace Go.Proofs.Ytbgnieajeipllaa
open Go.RowKit
set_option linter.unusedVariables false
set_option linter.unusedSimpArgs false
set_option maxRecDepth 100000

def lenOf : Value → Nat
  | .slice _ n _ => n
  | _ => 0

theorem Rd.lit1 (w : World) (o : Obj) (q : Int) : Rd ((w.alloc o).alloc (.cells #[.int .i64 q] 3)) (w.heap.size + 1) (.slice (some ⟨w.heap.size + 1, 0, none⟩) 1 1) [q] := by
  have h := Rd.litB (w.alloc o) (w.heap.size + 1) q (by simp)
  rw [show (w.alloc o).heap.size = w.heap.size + 1 by simp] at h
  exact h

theorem keepsB {B : Nat} {w w' : World} (h : Below B w w') {a : Addr} {u : Value} (hc : w.cell? a = some u) (hl : a.block < B) : w'.cell? a = some u := by
  rw [h.cell (p := a) hl]
  exact hc

theorem isOne_any (m : Int) (w : World) : Calls Try.prog 58 #[.int .i64 m] w fun e w' => e = .returned (.bool (E1 m)) ∧ w = w' := by
  have HE := Lib.hid (show E1 m = decide (m = 1) from rfl)
  go_enter Try.func58, Try.ntmps58
  go_wp2
  go_ret
  exact ⟨by rw [HE.out]; simp [Bool.beq_eq_decide_eq], rfl⟩

theorem isLess_any (m n : Int) (gn : Nat) (w : World) (hc : w.cell? ⟨gn, 0, none⟩ = some (.int .i64 n)) : Calls Try.prog 75 #[.int .i64 m, .pointer (some ⟨gn, 0, none⟩)] w fun e w' => e = .returned (.bool (El n m)) ∧ w = w' := by
  have HE := Lib.hid (show El n m = decide (m < n) from rfl)
  go_enter Try.func75, Try.ntmps75
  go_wp2
  go_ret
  exact ⟨by rw [HE.out]; rfl, rfl⟩

theorem lenOf_rd {w : World} {B : Nat} {v : Value} {xs : List Int} (h : Rd w B v xs) : lenOf v = xs.length := by
  obtain ⟨a, c, rfl⟩ := h.sl.len
  rfl

theorem run_one  (d m0 : Int) (g : Nat) (w : World) (h0 : Nst m0) (d0 : 0 ≤ d) (d1 : d ≤ 99) (hc : w.cell? ⟨g, 0, none⟩ = some (.int .i64 d)) :
    Calls Try.prog 59 #[.agg #[stepV g, .func (.func 58) #[] #[]], .int .i64 m0] w fun e w' => ∃ v, e = .returned (.tuple #[v, .bool (wlk (E1) d 1000 m0).isSome]) ∧ Rd w' w.heap.size v ((wlk (E1) d 1000 m0).getD []) ∧ Below w.heap.size w w' := by
  obtain ⟨X, hX⟩ : ∃ X, X = wlk (E1) d 1000 m0 := ⟨_, rfl⟩
  have HX := Lib.hid hX
  rw [← hX]
  clear hX
  have HC := Lib.hid hc
  clear hc
  have HB0 := Lib.hid (show Below w.heap.size w (w.alloc (.cells #[stepV g, .func (.func 58) #[] #[]] 44)) from al_below _ _)
  have HS0 := Lib.hid (show (w.alloc (.cells #[stepV g, .func (.func 58) #[] #[]] 44)).cell? ⟨w.heap.size, 0, none⟩ = some (stepV g) by simp [go_sem])
  have HS1 := Lib.hid (show (w.alloc (.cells #[stepV g, .func (.func 58) #[] #[]] 44)).cell? ⟨w.heap.size, 1, none⟩ = some (.func (.func 58) #[] #[]) by simp [go_sem])
  have HN0 := Lib.hid h0
  clear h0
  go_enter Try.func59, Try.ntmps59
  go_wp2
  go_loopw [6, 7] (fun o i wr => ∃ (m : Int) (pre : List Int), i = .int .i64 m ∧ Hid (Nst m) ∧ pre.length ≤ 1000 ∧ lenOf o = pre.length + 1 ∧ Rd wr (w.heap.size + 1) o (pre ++ [m]) ∧ Hid (jn pre (wlk (E1) d (1000 - pre.length) m) = X) ∧ Below w.heap.size w wr ∧ wr.cell? ⟨w.heap.size, 0, none⟩ = some (stepV g) ∧ wr.cell? ⟨w.heap.size, 1, none⟩ = some (.func (.func 58) #[] #[])) (fun o _ _ => 1001 - lenOf o)
  case atStart => exact ⟨m0, [], rfl, Lib.hid HN0.out, by simp, rfl, Rd.lit1 _ _ _, Lib.hid (by rw [jn_nil, HX.out]; rfl), HB0.out.alloc HB0.out.size _, Below.keeps_cell (al_below _ _) HS0.out, Below.keeps_cell (al_below _ _) HS1.out⟩
  case round =>
    obtain ⟨m, pre, rfl, HM, hpl, hlo, hr, HE, hbl, cs, cd⟩ := hrel
    have HR := Lib.hid hr
    have HB := Lib.hid hbl
    have HCG := Lib.hid (Below.keeps_cell hbl HC.out)
    have HCS := Lib.hid cs
    have hz := World.block_lt_of_cell? wr _ cs
    have HZ := Lib.hid hz
    clear hz
    have HCD := Lib.hid cd
    clear hr hbl
    obtain ⟨a6, c6, rfl⟩ := HR.out.sl.len
    obtain ⟨K, hK⟩ : ∃ K, K = (pre ++ [m]).length := ⟨_, rfl⟩
    have HK := Lib.hid (show pre.length + 1 = K by rw [hK]; simp)
    have hk1 : K ≤ 1001 := by have := HK.out; omega
    rw [← hK] at HR hlo ⊢
    clear hK hlo hpl
    obtain ⟨q, hq⟩ : ∃ q, q = (E1) m := ⟨_, rfl⟩
    have HQ := Lib.hid hq
    have m0' := HM.out.1
    have m1' := HM.out.2
    cases q with
    | true =>
      have HE2 := Lib.hid (show X = some (pre ++ [m]) by rw [← HE.out]; exact wlk_jn_end pre hq.symm)
      clear hq
      go_wp2_with ((go_at_call 58; refine (isOne_any _ _).mono ?_; rw [← HQ.out]; rintro e w1 ⟨rfl, rfl⟩))
      go_ret2
      exact ⟨_, by rw [HE2.out]; rfl, by rw [HE2.out]; exact HR.out.mono (Nat.le_succ _), HB.out⟩
    | false =>
      by_cases hs : Nst (stp d m)
      · by_cases hlt : K ≤ 1000
        · have HE2 := Lib.hid (wlk_jn_step (pre := pre) hq.symm hs (by have := HK.out; omega))
          have HS := Lib.hid (ledW_in HM.out hs)
          obtain ⟨z, hz⟩ : ∃ z, z = stp d m := ⟨_, rfl⟩
          have HNZ := Lib.hid hs
          rw [← hz] at HS HE2 HNZ
          clear hs hq hz
          have hlg2 : decide ((1000 : Int) < (K : Int)) = false := decide_eq_false (by omega)
          go_wp2_with (first | (go_at_call 58; refine (isOne_any _ _).mono ?_; rw [← HQ.out]; rintro e w1 ⟨rfl, rfl⟩) | (go_at_call 54; refine (lead_with _ d g _ d0 d1 HCG.out).mono ?_; rw [HS.out]; rintro e w1 ⟨rfl, rfl⟩) | (at_builtin; (refine wpList_appR rfl _ _ rfl (w.heap.size + 1) w.heap.size _ _ (pre ++ [m]) [z] rfl rfl (HR.out.alloc _) (Rd.litB _ _ _ HB.out.size) (by have := HK.out; simp; omega) (by have := HZ.out; simp; omega) ?_); intro v1 w2 hr1 hg1 hb2; have HR2 := Lib.hid hr1; have HBN := Lib.hid (((Below.refl (w.heap.size + 1) wr).alloc HZ.out _).trans hb2); have HB2 := Lib.hid (HB.out.trans (HBN.out.mono (Nat.le_succ _))); clear hr1 hg1 hb2))
          go_roundw
          case rel => exact ⟨z, pre ++ [m], rfl, Lib.hid HNZ.out, by have := HK.out; simp; omega, by rw [lenOf_rd HR2.out]; simp, HR2.out, Lib.hid (by rw [← HE.out, HE2.out]), HB2.out, keepsB HBN.out HCS.out (Nat.lt_succ_self _), keepsB HBN.out HCD.out (Nat.lt_succ_self _)⟩
          case measure => (rw [lenOf_rd HR2.out]; have := HK.out; simp [lenOf]; omega)
        · have HE2 := Lib.hid (show X = none by rw [← HE.out]; exact wlk_jn_long hq.symm (by have := HK.out; omega))
          have HS := Lib.hid (ledW_in HM.out hs)
          obtain ⟨z, hz⟩ : ∃ z, z = stp d m := ⟨_, rfl⟩
          rw [← hz] at HS
          clear hs hq hz
          have hlg2 : decide ((1000 : Int) < (K : Int)) = true := decide_eq_true (by omega)
          go_wp2_with (first | (go_at_call 58; refine (isOne_any _ _).mono ?_; rw [← HQ.out]; rintro e w1 ⟨rfl, rfl⟩) | (go_at_call 54; refine (lead_with _ d g _ d0 d1 HCG.out).mono ?_; rw [HS.out]; rintro e w1 ⟨rfl, rfl⟩))
          go_ret2
          exact ⟨_, by rw [HE2.out]; rfl, by rw [HE2.out]; exact Rd.nil _ _, HB.out⟩
      · have HE2 := Lib.hid (show X = none by rw [← HE.out]; exact wlk_jn_out pre hq.symm hs)
        have HS := Lib.hid (ledW_out HM.out hs)
        clear hs hq
        go_wp2_with (first | (go_at_call 58; refine (isOne_any _ _).mono ?_; rw [← HQ.out]; rintro e w1 ⟨rfl, rfl⟩) | (go_at_call 54; refine (lead_with _ d g _ d0 d1 HCG.out).mono ?_; rw [HS.out]; rintro e w1 ⟨rfl, rfl⟩))
        go_ret2
        exact ⟨_, by rw [HE2.out]; rfl, by rw [HE2.out]; exact Rd.nil _ _, HB.out⟩

theorem run_less (n : Int) (gn : Nat) (d m0 : Int) (g : Nat) (w : World) (h0 : Nst m0) (d0 : 0 ≤ d) (d1 : d ≤ 99) (hc : w.cell? ⟨g, 0, none⟩ = some (.int .i64 d)) (hn2 : w.cell? ⟨gn, 0, none⟩ = some (.int .i64 n)) :
    Calls Try.prog 59 #[.agg #[stepV g, .func (.func 75) #[] #[.pointer (some ⟨gn, 0, none⟩)]], .int .i64 m0] w fun e w' => ∃ v, e = .returned (.tuple #[v, .bool (wlk (El n) d 1000 m0).isSome]) ∧ Rd w' w.heap.size v ((wlk (El n) d 1000 m0).getD []) ∧ Below w.heap.size w w' := by
  obtain ⟨X, hX⟩ : ∃ X, X = wlk (El n) d 1000 m0 := ⟨_, rfl⟩
  have HX := Lib.hid hX
  rw [← hX]
  clear hX
  have HC := Lib.hid hc
  clear hc
  have HN2 := Lib.hid hn2
  have HGN := Lib.hid (World.block_lt_of_cell? w _ hn2)
  clear hn2
  have HB0 := Lib.hid (show Below w.heap.size w (w.alloc (.cells #[stepV g, .func (.func 75) #[] #[.pointer (some ⟨gn, 0, none⟩)]] 44)) from al_below _ _)
  have HS0 := Lib.hid (show (w.alloc (.cells #[stepV g, .func (.func 75) #[] #[.pointer (some ⟨gn, 0, none⟩)]] 44)).cell? ⟨w.heap.size, 0, none⟩ = some (stepV g) by simp [go_sem])
  have HS1 := Lib.hid (show (w.alloc (.cells #[stepV g, .func (.func 75) #[] #[.pointer (some ⟨gn, 0, none⟩)]] 44)).cell? ⟨w.heap.size, 1, none⟩ = some (.func (.func 75) #[] #[.pointer (some ⟨gn, 0, none⟩)]) by simp [go_sem])
  have HN0 := Lib.hid h0
  clear h0
  go_enter Try.func59, Try.ntmps59
  go_wp2
  go_loopw [6, 7] (fun o i wr => ∃ (m : Int) (pre : List Int), i = .int .i64 m ∧ Hid (Nst m) ∧ pre.length ≤ 1000 ∧ lenOf o = pre.length + 1 ∧ Rd wr (w.heap.size + 1) o (pre ++ [m]) ∧ Hid (jn pre (wlk (El n) d (1000 - pre.length) m) = X) ∧ Below w.heap.size w wr ∧ wr.cell? ⟨w.heap.size, 0, none⟩ = some (stepV g) ∧ wr.cell? ⟨w.heap.size, 1, none⟩ = some (.func (.func 75) #[] #[.pointer (some ⟨gn, 0, none⟩)]) ∧ wr.cell? ⟨gn, 0, none⟩ = some (.int .i64 n)) (fun o _ _ => 1001 - lenOf o)
  case atStart => exact ⟨m0, [], rfl, Lib.hid HN0.out, by simp, rfl, Rd.lit1 _ _ _, Lib.hid (by rw [jn_nil, HX.out]; rfl), HB0.out.alloc HB0.out.size _, Below.keeps_cell (al_below _ _) HS0.out, Below.keeps_cell (al_below _ _) HS1.out, Below.keeps_cell (al_below _ _) (Below.keeps_cell HB0.out HN2.out)⟩
  case round =>
    obtain ⟨m, pre, rfl, HM, hpl, hlo, hr, HE, hbl, cs, cd, ce⟩ := hrel
    have HR := Lib.hid hr
    have HB := Lib.hid hbl
    have HCG := Lib.hid (Below.keeps_cell hbl HC.out)
    have HCS := Lib.hid cs
    have hz := World.block_lt_of_cell? wr _ cs
    have HZ := Lib.hid hz
    clear hz
    have HCD := Lib.hid cd
    have HCE := Lib.hid ce
    clear hr hbl
    obtain ⟨a6, c6, rfl⟩ := HR.out.sl.len
    obtain ⟨K, hK⟩ : ∃ K, K = (pre ++ [m]).length := ⟨_, rfl⟩
    have HK := Lib.hid (show pre.length + 1 = K by rw [hK]; simp)
    have hk1 : K ≤ 1001 := by have := HK.out; omega
    rw [← hK] at HR hlo ⊢
    clear hK hlo hpl
    obtain ⟨q, hq⟩ : ∃ q, q = (El n) m := ⟨_, rfl⟩
    have HQ := Lib.hid hq
    have m0' := HM.out.1
    have m1' := HM.out.2
    cases q with
    | true =>
      have HE2 := Lib.hid (show X = some (pre ++ [m]) by rw [← HE.out]; exact wlk_jn_end pre hq.symm)
      clear hq
      go_wp2_with ((go_at_call 75; refine (isLess_any _ n gn _ HCE.out).mono ?_; rw [← HQ.out]; rintro e w1 ⟨rfl, rfl⟩))
      go_ret2
      exact ⟨_, by rw [HE2.out]; rfl, by rw [HE2.out]; exact HR.out.mono (Nat.le_succ _), HB.out⟩
    | false =>
      by_cases hs : Nst (stp d m)
      · by_cases hlt : K ≤ 1000
        · have HE2 := Lib.hid (wlk_jn_step (pre := pre) hq.symm hs (by have := HK.out; omega))
          have HS := Lib.hid (ledW_in HM.out hs)
          obtain ⟨z, hz⟩ : ∃ z, z = stp d m := ⟨_, rfl⟩
          have HNZ := Lib.hid hs
          rw [← hz] at HS HE2 HNZ
          clear hs hq hz
          have hlg2 : decide ((1000 : Int) < (K : Int)) = false := decide_eq_false (by omega)
          go_wp2_with (first | (go_at_call 75; refine (isLess_any _ n gn _ HCE.out).mono ?_; rw [← HQ.out]; rintro e w1 ⟨rfl, rfl⟩) | (go_at_call 54; refine (lead_with _ d g _ d0 d1 HCG.out).mono ?_; rw [HS.out]; rintro e w1 ⟨rfl, rfl⟩) | (at_builtin; (refine wpList_appR rfl _ _ rfl (w.heap.size + 1) w.heap.size _ _ (pre ++ [m]) [z] rfl rfl (HR.out.alloc _) (Rd.litB _ _ _ HB.out.size) (by have := HK.out; simp; omega) (by have := HZ.out; simp; omega) ?_); intro v1 w2 hr1 hg1 hb2; have HR2 := Lib.hid hr1; have HBN := Lib.hid (((Below.refl (w.heap.size + 1) wr).alloc HZ.out _).trans hb2); have HB2 := Lib.hid (HB.out.trans (HBN.out.mono (Nat.le_succ _))); clear hr1 hg1 hb2))
          go_roundw
          case rel => exact ⟨z, pre ++ [m], rfl, Lib.hid HNZ.out, by have := HK.out; simp; omega, by rw [lenOf_rd HR2.out]; simp, HR2.out, Lib.hid (by rw [← HE.out, HE2.out]), HB2.out, keepsB HBN.out HCS.out (Nat.lt_succ_self _), keepsB HBN.out HCD.out (Nat.lt_succ_self _), keepsB HBN.out HCE.out (by have := HGN.out; simp; omega)⟩
          case measure => (rw [lenOf_rd HR2.out]; have := HK.out; simp [lenOf]; omega)
        · have HE2 := Lib.hid (show X = none by rw [← HE.out]; exact wlk_jn_long hq.symm (by have := HK.out; omega))
          have HS := Lib.hid (ledW_in HM.out hs)
          obtain ⟨z, hz⟩ : ∃ z, z = stp d m := ⟨_, rfl⟩
          rw [← hz] at HS
          clear hs hq hz
          have hlg2 : decide ((1000 : Int) < (K : Int)) = true := decide_eq_true (by omega)
          go_wp2_with (first | (go_at_call 75; refine (isLess_any _ n gn _ HCE.out).mono ?_; rw [← HQ.out]; rintro e w1 ⟨rfl, rfl⟩) | (go_at_call 54; refine (lead_with _ d g _ d0 d1 HCG.out).mono ?_; rw [HS.out]; rintro e w1 ⟨rfl, rfl⟩))
          go_ret2
          exact ⟨_, by rw [HE2.out]; rfl, by rw [HE2.out]; exact Rd.nil _ _, HB.out⟩
      · have HE2 := Lib.hid (show X = none by rw [← HE.out]; exact wlk_jn_out pre hq.symm hs)
        have HS := Lib.hid (ledW_out HM.out hs)
        clear hs hq
        go_wp2_with (first | (go_at_call 75; refine (isLess_any _ n gn _ HCE.out).mono ?_; rw [← HQ.out]; rintro e w1 ⟨rfl, rfl⟩) | (go_at_call 54; refine (lead_with _ d g _ d0 d1 HCG.out).mono ?_; rw [HS.out]; rintro e w1 ⟨rfl, rfl⟩))
        go_ret2
        exact ⟨_, by rw [HE2.out]; rfl, by rw [HE2.out]; exact Rd.nil _ _, HB.out⟩

end Go.Proofs.Ytbgnieajeipllaa
