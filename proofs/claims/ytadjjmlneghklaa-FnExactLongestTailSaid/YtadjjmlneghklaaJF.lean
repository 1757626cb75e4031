/-
  The program's steps as closures: what each gap is worth; the word behind gaps; the word behind a word.
-/
import Derived.Test.YtadjjmlneghklaaJE
import Derived.Deep.RegionHeld3
namespace Go.Proofs.Ytadjjmlneghklaa
open Go.RowKit
set_option linter.unusedVariables false
set_option linter.unusedSimpArgs false
set_option maxRecDepth 100000

/-- What the step from gaps keeps: what each gap is worth, and the shape of the words. -/
structure GS (w : World) (B gq gs W : Nat) (b : Int) : Prop where
  worth : ∃ gw cw, w.cell? ⟨gq, 0, none⟩ = some (.slice (some ⟨gw, 0, none⟩) (W / 2) cw) ∧ Rd w B (.slice (some ⟨gw, 0, none⟩) (W / 2) cw) (ws b W)
  width : w.cell? ⟨gs, 0, none⟩ = some (.int .i64 (W : Int))
  base : w.cell? ⟨gs, 1, none⟩ = some (.int .i64 b)
  lq : B ≤ gq
  ls : B ≤ gs
theorem GS.keep {w w' : World} {B gq gs W : Nat} {b : Int} (h : GS w B gq gs W b) (hb : Below w.heap.size w w') : GS w' B gq gs W b := by
  obtain ⟨gw, cw, h1, h2⟩ := h.worth
  exact ⟨⟨gw, cw, Below.keeps_cell hb h1, h2.keep hb⟩, Below.keeps_cell hb h.width, Below.keeps_cell hb h.base, h.lq, h.ls⟩
theorem GS.grown {w w' : World} {B gq gs W : Nat} {b : Int} {row : Option Nat} (h : GS w B gq gs W b) (hg : w.grownBy w' row) (hr : ∀ k, row = some k → k < B) : GS w' B gq gs W b := by
  obtain ⟨gw, cw, h1, h2⟩ := h.worth
  have hne : ∀ k, B ≤ k → some k ≠ row := fun k hk e => by have := hr k e.symm; omega
  exact ⟨⟨gw, cw, hg.cell h1 (hne _ h.lq), h2.grown hg (.inr (by have := hne gw (h2.lt gw rfl).1; simpa [Value.ownBlock] using this))⟩, hg.cell h.width (hne _ h.ls), hg.cell h.base (hne _ h.ls), h.lq, h.ls⟩

theorem GS.lower {w : World} {B C gq gs W : Nat} {b : Int} (h : GS w B gq gs W b) (hC : C ≤ B) : GS w C gq gs W b := by
  obtain ⟨gw, cw, h1, h2⟩ := h.worth
  exact ⟨⟨gw, cw, h1, h2.mono hC⟩, h.width, h.base, Nat.le_trans hC h.lq, Nat.le_trans hC h.ls⟩
theorem pow_split (b : Int) {W i : Nat} (h : i + 1 ≤ W) : b ^ (W - i) = b ^ (W - 1 - i) * b := by
  rw [show W - i = (W - 1 - i) + 1 by omega, Int.pow_succ]
theorem pow_quo {b : Int} (hb : 2 ≤ b) {W i : Nat} (h : i + 1 ≤ W) : b ^ (W - i) / b = b ^ (W - 1 - i) := by
  rw [pow_split b h]; exact Int.mul_ediv_cancel _ (by omega)

theorem gapStep_any (W : Nat) (b : Int) (w : World) (hb : 2 ≤ b) (hb' : b ≤ 16) (hW : W ≤ 8) (hW1 : 1 ≤ W) :
    Calls Try.prog 66 #[shp (W : Int) b] w fun e w' => ∃ gq gs, e = .returned (.func (.func 77) #[] #[.pointer (some ⟨gq, 0, none⟩), .pointer (some ⟨gs, 0, none⟩)]) ∧ GS w' w.heap.size gq gs W b ∧ w.heap.size ≤ gq ∧ w.heap.size ≤ gs ∧ Below w.heap.size w w' := by
  have HP := Lib.hid (show ∀ k, k ≤ W → 1 ≤ b ^ k ∧ b ^ k ≤ 4294967296 from fun k hk => ⟨by have := Int.pow_pos (n := b) (m := k) (by omega); omega, (ws_all hb hb' (show k ≤ 8 by omega)).2.2⟩)
  have HB := Lib.hid (show Below w.heap.size w (w.alloc (.cells #[.int .i64 (W : Int), .int .i64 b] 45)) from (Below.refl _ _).alloc (Nat.le_refl _) _)
  have HC0 := Lib.hid (show (w.alloc (.cells #[.int .i64 (W : Int), .int .i64 b] 45)).cell? ⟨w.heap.size, 0, none⟩ = some (.int .i64 (W : Int)) by simp [go_sem])
  have HC1 := Lib.hid (show (w.alloc (.cells #[.int .i64 (W : Int), .int .i64 b] 45)).cell? ⟨w.heap.size, 1, none⟩ = some (.int .i64 b) by simp [go_sem])
  have hmf : ∀ (fn : Fn) (first cap : Array Value) (w : World), (Instr.makeFunc fn first cap).run Try.prog w = .ok (.func fn first cap) w := fun _ _ _ _ => rfl
  go_enter Try.func66, Try.ntmps66
  go_wp2_with fail
  refine (countGaps_any W b _ hW).mono ?_
  rintro e w1 ⟨rfl, hb1⟩
  have B1 := Lib.hid (Below.step HB.out HB.out.size hb1)
  have c0 := Below.keeps_cell hb1 HC0.out
  have c1 := Below.keeps_cell hb1 HC1.out
  have hs1 : w.heap.size + 1 ≤ w1.heap.size := by have := hb1.size; simpa using this
  clear hb1 HC0 HC1 HB
  go_wp2_with (refine wpList_mkR rfl _ _ rfl .i64 .i64 ((W / 2 : Nat) : Int) ((W / 2 : Nat) : Int) (W / 2) rfl rfl rfl rfl (by omega) ?_; intro w3 hr3 hg3 hb3; have R3 := Lib.hid hr3; have B3 := Lib.hid (Below.step B1.out B1.out.size hb3); have e0 := Below.keeps_cell hb3 c0; have e1 := Below.keeps_cell hb3 c1; clear hr3 hg3 hb3 c0 c1)
  have HM := Lib.hid (Lib.hid (alloc_below w3 (.cells #[.slice (some ⟨w1.heap.size, 0, none⟩) (W / 2) (W / 2)] 33)))
  have R4 := Lib.hid (R3.out.keep HM.out.out)
  have B4 := Lib.hid (Below.step B3.out B3.out.size HM.out.out)
  have c0 := Below.keeps_cell HM.out.out e0
  have c1 := Below.keeps_cell HM.out.out e1
  have HQ := Lib.hid (show (w3.alloc (.cells #[.slice (some ⟨w1.heap.size, 0, none⟩) (W / 2) (W / 2)] 33)).cell? ⟨w3.heap.size, 0, none⟩ = some (.slice (some ⟨w1.heap.size, 0, none⟩) (W / 2) (W / 2)) by simp [go_sem])
  have hs3 : w1.heap.size + 1 ≤ w3.heap.size := by have := R3.out.at.2.2.1; exact this
  clear R3 B3 e0 e1 HM
  generalize (w3.alloc (.cells #[.slice (some ⟨w1.heap.size, 0, none⟩) (W / 2) (W / 2)] 33)) = w4 at *
  have HD0 := Lib.hid (show Below w4.heap.size w4 w4.drew from (Below.refl _ _).drew)
  have d1 : w4.drew.cell? ⟨w.heap.size, 1, none⟩ = some (.int .i64 b) := c1
  have HCW := Lib.hid (fun w' => countWords_any W b w' hb hb' hW)
  have HPQ := Lib.hid (pow_quo hb (W := W) (i := 0) (by omega))
  rw [Nat.sub_zero, Nat.sub_zero] at HPQ
  obtain ⟨p1, p2⟩ := HP.out W (Nat.le_refl _)
  obtain ⟨q1, q2⟩ := HP.out (W - 1) (by omega)
  obtain ⟨pw, hpw⟩ : ∃ pw, pw = b ^ W := ⟨_, rfl⟩
  rw [← hpw] at HCW HPQ p1 p2
  clear hpw
  have hbz : ¬ b = 0 := by omega
  have hfq0 : 0 ≤ pw / b := by rw [HPQ.out]; omega
  have hfq1 : pw / b ≤ 4294967296 := by rw [HPQ.out]; omega
  have hp0 : 0 ≤ pw := by omega
  have hb0 : 0 ≤ b := by omega
  have HFR := Lib.hid (show pw / b = b ^ (W - 1 - 0) by rw [HPQ.out, Nat.sub_zero])
  obtain ⟨fr, hfr⟩ : ∃ fr, fr = pw / b := ⟨_, rfl⟩
  have hwq : IntKind.i64.wrap (pw.tdiv b) = fr := by rw [Int.tdiv_eq_ediv_of_nonneg hp0, IntWalk.i64_in _ (by omega), hfr]
  rw [← hfr] at HFR hfq0 hfq1
  clear hfr
  have d0 : w4.drew.cell? ⟨w.heap.size, 0, none⟩ = some (.int .i64 (W : Int)) := c0
  go_region_held3 (fun w' => w'.cell? ⟨w.heap.size, 0, none⟩ = some (.int .i64 (W : Int)) ∧ w'.cell? ⟨w.heap.size, 1, none⟩ = some (.int .i64 b)) (first | exact ⟨d0, d1⟩ | exact ⟨f0, f1⟩) (first
    | (go_at_call 56; refine (HCW.out _).mono ?_; rintro e w5 ⟨rfl, hb5⟩; have B5 := Lib.hid (Below.step HD0.out HD0.out.size hb5); have f1 := Below.keeps_cell hb5 d1; have f0 := Below.keeps_cell hb5 d0; clear hb5))
  have R5 := Lib.hid (R4.out.keep B5.out)
  have B6 := Lib.hid (Below.step B4.out B4.out.size B5.out)
  have HQ5 := Lib.hid (Below.keeps_cell B5.out HQ.out)
  have hs5 : w3.heap.size < w5.heap.size := World.block_lt_of_cell? w5 _ HQ5.out
  clear hwq d0 d1 c0 c1 HQ B4 R4 B5 HPQ q1 q2 HCW HD0
  have HWL := Lib.hid (ws_len b W)
  have hq5 := HQ5.out
  go_wp2
  go_loopw [4, 5, 17] (fun f q i wr => ∃ (k : Nat) (zs : List Int), k ≤ W / 2 ∧ i = .int .i64 (k : Int) ∧ f = .int .i64 (b ^ (W - 1 - k)) ∧ q = .int .i64 (b ^ k) ∧ zs.length = W / 2 ∧ zs.take k = (ws b W).take k ∧
    Rd wr w1.heap.size (.slice (some ⟨w1.heap.size, 0, none⟩) (W / 2) (W / 2)) zs ∧ Below w.heap.size w wr ∧ wr.cell? ⟨w3.heap.size, 0, none⟩ = some (.slice (some ⟨w1.heap.size, 0, none⟩) (W / 2) (W / 2)) ∧
    wr.cell? ⟨w.heap.size, 0, none⟩ = some (.int .i64 (W : Int)) ∧ wr.cell? ⟨w.heap.size, 1, none⟩ = some (.int .i64 b)) (fun _ _ i _ => W / 2 - (intOf i).toNat)
  case atStart => exact ⟨0, List.replicate (W / 2) 0, Nat.zero_le _, rfl, by rw [HFR.out], by rw [Int.pow_zero], by simp, rfl, R5.out, B6.out, HQ5.out, f0, f1⟩
  case round =>
    obtain ⟨k, zs, hk, rfl, rfl, rfl, hzl, hzt, hrz, hbl, cq, c0, c1⟩ := hrel
    have HZL := Lib.hid hzl
    have HZT := Lib.hid hzt
    have RZ := Lib.hid hrz
    have HB := Lib.hid hbl
    clear hzl hzt hrz hbl
    by_cases hlt : k < W / 2
    · obtain ⟨p1, p2⟩ := HP.out (W - 1 - k) (by omega)
      obtain ⟨q1, q2⟩ := HP.out k (by omega)
      have HWK := Lib.hid (ws_at b W k (by rw [HWL.out]; exact hlt))
      have HPK := Lib.hid (pow_quo hb (W := W) (i := k + 1) (by omega))
      rw [show W - (k + 1) = W - 1 - k by omega] at HPK
      have HQK := Lib.hid (Int.pow_succ b k)
      obtain ⟨p, hp⟩ : ∃ p, p = b ^ (W - 1 - k) := ⟨_, rfl⟩
      obtain ⟨q, hq⟩ : ∃ q, q = b ^ k := ⟨_, rfl⟩
      rw [← hp] at p1 p2 HWK HPK
      rw [← hq] at q1 q2 HWK HQK
      rw [← hp, ← hq]
      obtain ⟨m1, m2⟩ : 0 ≤ q * b ∧ q * b ≤ 4294967296 * 16 := ⟨Int.mul_nonneg (by omega) (by omega), Int.mul_le_mul q2 hb' (by omega) (by omega)⟩
      have hcz := RZ.out.at.2.2.2.2.1 k (by rw [HZL.out]; exact hlt)
      obtain ⟨z, hz⟩ : ∃ z, z = zs[k]'(by rw [HZL.out]; exact hlt) := ⟨_, rfl⟩
      rw [← hz] at hcz
      have hfz := RZ.out.at.2.2.2.2.2 k
      have HSET := Lib.hid (RZ.out.set k (p - q))
      have c1' := HSET.out.2.cell c1 (by simp <;> omega)
      have HX0 := Lib.hid (HSET.out.2.cell c0 (by simp <;> omega))
      have HXQ := Lib.hid (HSET.out.2.cell cq (by simp <;> omega))
      clear hp hq hz
      go_wp2
      go_roundw
      case rel =>
        exact ⟨k + 1, zs.set k (p - q), by omega, by go_num, by rw [show W - 1 - (k + 1) = W - 1 - (k + 1) from rfl, ← HPK.out], by rw [HQK.out], by rw [List.length_set, HZL.out], take_set_next (by rw [HZL.out]; exact hlt) (by rw [HWL.out]; exact hlt) HZT.out (p - q) HWK.out, HSET.out.1, HB.out.trans (grown_below HSET.out.2 HB.out.size (by omega)), HXQ.out, HX0.out, c1'⟩
      case measure => simp [intOf] <;> omega
    · obtain rfl : k = W / 2 := by omega
      have HE := Lib.hid (show zs = ws b W by
        have h1 := HZT.out
        rw [List.take_of_length_le (by rw [HZL.out]; exact Nat.le_refl _), List.take_of_length_le (by rw [HWL.out]; exact Nat.le_refl _)] at h1
        exact h1)
      go_wp2
      go_ret
      exact ⟨_, _, rfl, ⟨⟨_, _, cq, by rw [← HE.out]; exact RZ.out.mono (by omega)⟩, c0, c1, by omega, Nat.le_refl _⟩, by omega, Nat.le_refl _, HB.out⟩

end Go.Proofs.Ytadjjmlneghklaa
