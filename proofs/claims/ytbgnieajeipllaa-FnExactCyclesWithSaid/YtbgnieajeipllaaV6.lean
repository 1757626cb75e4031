/-
  The program's search until a number comes again.
-/
import Derived.Test.YtbgnieajeipllaaV5
namespace Go.Proofs.Ytbgnieajeipllaa
open Go.RowKit
set_option linter.unusedVariables false
set_option linter.unusedSimpArgs false
set_option maxRecDepth 100000

def runO : Option (List Int × Int) → List Int
  | some (xs, y) => xs ++ [y]
  | none => []

theorem grown_trans' {a b c : World} {row : Option Nat} (h : a.grownBy b row) (h2 : b.grownBy c row) : a.grownBy c row := grown_trans h h2
theorem grown_of_below {w a c : World} {row : Option Nat} {B : Nat} (h : w.grownBy a row) (hb : Below B a c) (hB : w.heap.size ≤ B) : w.grownBy c row :=
  ⟨hb.os.trans h.os, hb.tape.trans h.tape, hb.output.trans h.output, Nat.le_trans h.size (by have := hb.size; have := h.size; omega), fun k hk hne => (hb.block k (by omega)).trans (h.block k hk hne)⟩

set_option maxHeartbeats 1000000 in
theorem run_seen (n0 d : Int) (g gp b : Nat) (w : World) (h0 : Nst n0) (d0 : 0 ≤ d) (d1 : d ≤ 99) (hc : w.cell? ⟨g, 0, none⟩ = some (.int .i64 d)) (hp : w.cell? ⟨gp, 0, none⟩ = some (.map (some b))) (hs : St w NB b (fun _ => false)) :
    Calls Try.prog 59 #[.agg #[stepV g, .func (.func 90) #[] #[.pointer (some ⟨gp, 0, none⟩)]], .int .i64 n0] w fun e w' => ∃ v, e = .returned (.tuple #[v, .bool (hdc d [] n0).isSome]) ∧ Rd w' w.heap.size v (runO (hdc d [] n0)) ∧ w.grownBy w' (some b) := by
  obtain ⟨X, hX⟩ : ∃ X, X = hdc d [] n0 := ⟨_, rfl⟩
  have HX := Lib.hid hX
  rw [← hX]
  clear hX
  have hbl := hs.lt
  have hgl := World.block_lt_of_cell? w _ hc
  have hpl := World.block_lt_of_cell? w _ hp
  have hneg : some g ≠ some b := fun e => by
    cases e
    obtain ⟨D, h1, _⟩ := hs
    obtain ⟨es, clock, hbb, _⟩ := h1
    unfold World.cell? at hc
    simp [hbb] at hc
  have hnep : some gp ≠ some b := fun e => by
    cases e
    obtain ⟨D, h1, _⟩ := hs
    obtain ⟨es, clock, hbb, _⟩ := h1
    unfold World.cell? at hp
    simp [hbb] at hp
  have HNG := Lib.hid hneg
  have HNP := Lib.hid hnep
  have HBL := Lib.hid hbl
  have HGL := Lib.hid hgl
  have HPL := Lib.hid hpl
  have HC := Lib.hid hc
  have HP := Lib.hid hp
  have HST := Lib.hid hs
  obtain ⟨EV, hEV⟩ : ∃ EV : Value, EV = .func (.func 90) #[] #[.pointer (some ⟨gp, 0, none⟩)] := ⟨_, rfl⟩
  clear hc hp hs hneg hnep hbl hgl hpl
  have HB0 := Lib.hid (show Below w.heap.size w (w.alloc (.cells #[stepV g, .func (.func 90) #[] #[.pointer (some ⟨gp, 0, none⟩)]] 44)) from al_below _ _)
  have HS0 := Lib.hid (show (w.alloc (.cells #[stepV g, .func (.func 90) #[] #[.pointer (some ⟨gp, 0, none⟩)]] 44)).cell? ⟨w.heap.size, 0, none⟩ = some (stepV g) by simp [go_sem])
  have HS1 := Lib.hid (show (w.alloc (.cells #[stepV g, .func (.func 90) #[] #[.pointer (some ⟨gp, 0, none⟩)]] 44)).cell? ⟨w.heap.size, 1, none⟩ = some (.func (.func 90) #[] #[.pointer (some ⟨gp, 0, none⟩)]) by simp [go_sem])
  obtain ⟨k0, rfl⟩ : ∃ k : Nat, n0 = (k : Int) := ⟨n0.toNat, by have := h0.1; omega⟩
  have HN0 := Lib.hid h0
  clear h0 hEV
  go_enter Try.func59, Try.ntmps59
  go_wp2
  go_loopw [6, 7] (fun o i wr => ∃ (m : Nat) (pre : List Int), i = .int .i64 (m : Int) ∧ Hid (Nst (m : Int)) ∧ pre.length ≤ 1000 ∧ lenOf o = pre.length + 1 ∧ Rd wr (w.heap.size + 1) o (pre ++ [(m : Int)]) ∧ Hid (hdc d pre (m : Int) = X) ∧ w.grownBy wr (some b) ∧ wr.cell? ⟨w.heap.size, 0, none⟩ = some (stepV g) ∧ wr.cell? ⟨w.heap.size, 1, none⟩ = some (.func (.func 90) #[] #[.pointer (some ⟨gp, 0, none⟩)]) ∧ wr.cell? ⟨g, 0, none⟩ = some (.int .i64 d) ∧ wr.cell? ⟨gp, 0, none⟩ = some (.map (some b)) ∧ St wr NB b (mems pre)) (fun o _ _ => 1001 - lenOf o)
  case atStart => exact ⟨k0, [], rfl, Lib.hid HN0.out, by simp, rfl, Rd.lit1 _ _ _, Lib.hid HX.out.symm, grown_of_below (World.grownBy.refl _ _) (HB0.out.alloc HB0.out.size _) (Nat.le_refl _), Below.keeps_cell (al_below _ _) HS0.out, Below.keeps_cell (al_below _ _) HS1.out, Below.keeps_cell (al_below _ _) (Below.keeps_cell HB0.out HC.out), Below.keeps_cell (al_below _ _) (Below.keeps_cell HB0.out HP.out), ((HST.out.alloc _).alloc _).congr (fun x hx => by simp [mems])⟩
  case round =>
    obtain ⟨m, pre, rfl, HM, hpl, hlo, hr, HE, hgr, cs, cd, cg, cp, hst⟩ := hrel
    have HR := Lib.hid hr
    have HG := Lib.hid hgr
    have HCS := Lib.hid cs
    have HCD := Lib.hid cd
    have HCG := Lib.hid cg
    have HCP := Lib.hid cp
    have HSM := Lib.hid hst
    have HZ := Lib.hid (World.block_lt_of_cell? wr _ cs)
    clear hr hgr cg hst
    obtain ⟨a6, c6, rfl⟩ := HR.out.sl.len
    obtain ⟨K, hK⟩ : ∃ K, K = (pre ++ [(m : Int)]).length := ⟨_, rfl⟩
    have HK := Lib.hid (show pre.length + 1 = K by rw [hK]; simp)
    have hk1 : K ≤ 1001 := by have := HK.out; omega
    rw [← hK] at HR hlo ⊢
    clear hK hlo hpl
    have m0' := HM.out.1
    have m1' := HM.out.2
    obtain ⟨q, hq⟩ : ∃ q, q = mems pre m := ⟨_, rfl⟩
    have HQ := Lib.hid hq
    have HWA := Lib.hid (was_any m gp b (mems pre) wr (by show m < 1000000000001; omega) HCP.out HSM.out)
    rw [← hq] at HWA
    have HOB := Lib.hid (show ∀ k, (Value.slice a6 K c6).ownBlock = some k → k ≠ b from fun k hk e => by have h1 := (HR.out.lt k hk).1; have h2 := HBL.out; omega)
    cases q with
    | true =>
      have hin : (m : Int) ∈ pre := by simpa [mems] using hq.symm
      have HE2 := Lib.hid (show X = some (pre, (m : Int)) by rw [← HE.out]; exact hdc_in hin)
      clear hq hin
      go_wp2_with (go_at_call 90; refine HWA.out.mono ?_; rintro e w1 ⟨rfl, hs1, hg1⟩; have HG1 := Lib.hid hg1; clear hs1 hg1)
      go_ret2
      refine ⟨_, by rw [HE2.out]; rfl, ?_, grown_trans' HG.out HG1.out⟩
      rw [HE2.out]
      refine (HR.out.grown HG1.out ?_).mono (Nat.le_succ _)
      cases hv : (Value.slice a6 K c6).ownBlock with
      | none => exact .inl rfl
      | some k => exact .inr (fun e => HOB.out k hv (by cases e; rfl))
    | false =>
      have hin : ¬ (m : Int) ∈ pre := by simpa [mems] using hq.symm
      have HRG := Lib.hid (show ∀ w1 : World, wr.grownBy w1 (some b) → Rd w1 (w.heap.size + 1) (.slice a6 K c6) (pre ++ [(m : Int)]) from fun w1 hg => HR.out.grown hg (by
        cases hv : (Value.slice a6 K c6).ownBlock with
        | none => exact .inl rfl
        | some k => exact .inr (fun e => HOB.out k hv (by cases e; rfl))))
      have HWB := Lib.hid (show some w.heap.size ≠ some b from fun e => by have := HBL.out; cases e; omega)
      by_cases hs : Nst (stp d (m : Int))
      · by_cases hlt : K ≤ 1000
        · have HE2 := Lib.hid (hdc_step (pre := pre) hin hs (by have := HK.out; omega))
          have HS := Lib.hid (ledW_in HM.out hs)
          obtain ⟨z, hz⟩ : ∃ z : Nat, stp d (m : Int) = (z : Int) := ⟨(stp d (m : Int)).toNat, by have := hs.1; omega⟩
          have HNZ := Lib.hid hs
          rw [hz] at HS HE2 HNZ
          clear hs hq hz hin
          have hlg2 : decide ((1000 : Int) < (K : Int)) = false := decide_eq_false (by omega)
          go_wp2_with (first
            | (go_at_call 90; refine HWA.out.mono ?_; rintro e w1 ⟨rfl, hs1, hg1⟩; have HS1' := Lib.hid (hs1.congr (fun x hx => mems_snoc pre m x)); have HG1 := Lib.hid hg1; have HR1 := Lib.hid (HRG.out w1 hg1); have g1 := hg1.cell HCG.out HNG.out; have p1 := hg1.cell HCP.out HNP.out; have c01 := hg1.cell HCS.out HWB.out; have c11 := hg1.cell HCD.out HWB.out; have HZ1 := Lib.hid (Nat.lt_of_lt_of_le HZ.out hg1.size); clear hs1 hg1)
            | (go_at_call 54; refine (lead_with _ d g _ d0 d1 g1).mono ?_; rw [HS.out]; rintro e w2 ⟨rfl, rfl⟩)
            | (at_builtin; refine wpList_appR rfl _ _ rfl (w.heap.size + 1) w.heap.size _ _ (pre ++ [(m : Int)]) [(z : Int)] rfl rfl (HR1.out.alloc _) (Rd.litB _ _ _ (Nat.le_of_lt HZ1.out)) (by have := HK.out; simp; omega) (by have := HZ1.out; simp; omega) ?_; intro v1 w3 hr3 hg3 hb3; have HR2 := Lib.hid hr3; have HBN := Lib.hid (((Below.refl (w.heap.size + 1) w1).alloc HZ1.out _).trans hb3); clear hr3 hg3 hb3))
          go_roundw
          case rel => exact ⟨z, pre ++ [(m : Int)], rfl, Lib.hid HNZ.out, by have := HK.out; simp; omega, by rw [lenOf_rd HR2.out]; simp, HR2.out, Lib.hid (by rw [← HE.out, HE2.out]), grown_of_below (grown_trans' HG.out HG1.out) HBN.out (Nat.le_succ _), keepsB HBN.out c01 (Nat.lt_succ_self _), keepsB HBN.out c11 (Nat.lt_succ_self _), keepsB HBN.out g1 (by have := HGL.out; simp at this ⊢; omega), keepsB HBN.out p1 (by have := HPL.out; simp at this ⊢; omega), HS1'.out.keepB HBN.out (by have := HBL.out; omega)⟩
          case measure => (rw [lenOf_rd HR2.out]; have := HK.out; simp [lenOf]; omega)
        · have HE2 := Lib.hid (show X = none by rw [← HE.out]; exact hdc_long hin (by have := HK.out; omega))
          have HS := Lib.hid (ledW_in HM.out hs)
          obtain ⟨z, hz⟩ : ∃ z, z = stp d (m : Int) := ⟨_, rfl⟩
          rw [← hz] at HS
          clear hs hq hz hin
          have hlg2 : decide ((1000 : Int) < (K : Int)) = true := decide_eq_true (by omega)
          go_wp2_with (first
            | (go_at_call 90; refine HWA.out.mono ?_; rintro e w1 ⟨rfl, hs1, hg1⟩; have HG1 := Lib.hid hg1; have g1 := hg1.cell HCG.out HNG.out; have c01 := hg1.cell HCS.out HWB.out; clear hs1 hg1)
            | (go_at_call 54; refine (lead_with _ d g _ d0 d1 g1).mono ?_; rw [HS.out]; rintro e w2 ⟨rfl, rfl⟩))
          go_ret2
          exact ⟨_, by rw [HE2.out]; rfl, by rw [HE2.out]; exact Rd.nil _ _, grown_trans' HG.out HG1.out⟩
      · have HE2 := Lib.hid (show X = none by rw [← HE.out]; exact hdc_out hin hs)
        have HS := Lib.hid (ledW_out HM.out hs)
        clear hs hq hin
        go_wp2_with (first
          | (go_at_call 90; refine HWA.out.mono ?_; rintro e w1 ⟨rfl, hs1, hg1⟩; have HG1 := Lib.hid hg1; have g1 := hg1.cell HCG.out HNG.out; have c01 := hg1.cell HCS.out HWB.out; clear hs1 hg1)
          | (go_at_call 54; refine (lead_with _ d g _ d0 d1 g1).mono ?_; rw [HS.out]; rintro e w2 ⟨rfl, rfl⟩))
        go_ret2
        exact ⟨_, by rw [HE2.out]; rfl, by rw [HE2.out]; exact Rd.nil _ _, grown_trans' HG.out HG1.out⟩

end Go.Proofs.Ytbgnieajeipllaa
