/-
  The sources of a value: sourcesOf.
-/
import Derived.Test.YtamibonkbpppmaaN2
namespace Go.Proofs.Ytamibonkbpppmaa
open Go.RowKit
set_option linter.unusedVariables false
set_option linter.unusedSimpArgs false
set_option maxRecDepth 100000

/-- sourcesOf of less than two digits. -/
theorem sourcesOf_two (b v least : Int) (W : Nat) (w : World) (hW : W < 2) (hb : 2 ≤ b) (hb' : b ≤ 16) (hv : 0 ≤ v) (hv' : v ≤ 1000000000000000000) (hl : 0 ≤ least) (hl' : least ≤ 1) :
    Calls Try.prog 63 #[.int .i64 v, .int .i64 (W : Int), .int .i64 b, .int .i64 least] w fun e w' => ∃ u, e = .returned (.agg #[.int .i64 (srcV b W v least).1, u]) ∧ Rd w' w.heap.size u (srcV b W v least).2 ∧ Below w.heap.size w w' := by
  have HAL := Lib.hid (alloc_below w (.cells #[.int .i64 0, .slice none 0 0] 66))
  have HC0 := Lib.hid (show (w.alloc (.cells #[.int .i64 0, .slice none 0 0] 66)).cell? ⟨w.heap.size, 0, none⟩ = some (.int .i64 0) by simp [go_sem])
  have HC1 := Lib.hid (show (w.alloc (.cells #[.int .i64 0, .slice none 0 0] 66)).cell? ⟨w.heap.size, 1, none⟩ = some (.slice none 0 0) by simp [go_sem])
  have HF := Lib.hid (show ∀ j, (w.alloc (.cells #[.int .i64 0, .slice none 0 0] 66)).frozen? ⟨w.heap.size, j, none⟩ = false from fun j => by simp [go_sem])
  obtain ⟨w1, hw1⟩ : ∃ w1, w1 = w.alloc (.cells #[.int .i64 0, .slice none 0 0] 66) := ⟨_, rfl⟩
  have HW1 := Lib.hid hw1
  have hsz : w.heap.size < w1.heap.size := by rw [hw1, World.size_alloc]; omega
  rw [← hw1] at HAL HC0 HC1 HF
  have HM := Lib.hid (middle_any b v least W w1 hW hb (by omega) hv hv' hl hl')
  obtain ⟨sv, hsv⟩ : ∃ sv, sv = srcV b W v least := ⟨_, rfl⟩
  rw [← hsv] at HM ⊢
  clear hsv hw1
  have hW3 : (W : Int) < 2 := by omega
  go_enter Try.func63, Try.ntmps63
  go_wp2_with fail
  rw [← HW1.out]
  refine HM.out.mono ?_
  rintro e w2 ⟨u, rfl, hr, hb2⟩
  obtain ⟨a2, d2, rfl⟩ := hr.shape'
  have c0 := Below.keeps_cell hb2 HC0.out
  have c1 := Below.keeps_cell hb2 HC1.out
  have hfz : ∀ j, w2.frozen? ⟨w.heap.size, j, none⟩ = false := fun j => by rw [(below_cells hb2).2 _ _ hsz]; exact HF.out j
  have f0 := hfz 0
  have f1 := hfz 1
  have B2 := Lib.hid (Below.step HAL.out HAL.out.size hb2)
  have hgr : ∀ u q, Below w.heap.size w ((w2.setCell ⟨w.heap.size, 0, none⟩ u).setCell ⟨w.heap.size, 1, none⟩ q) := fun u q => (B2.out.setCell (Nat.le_refl _) _).setCell (Nat.le_refl _) _
  have HGR := Lib.hid hgr
  have hne : (Value.slice a2 sv.2.length d2).ownBlock = none ∨ (Value.slice a2 sv.2.length d2).ownBlock ≠ some w.heap.size := by
    by_cases e : (Value.slice a2 sv.2.length d2).ownBlock = none
    · exact .inl e
    · exact .inr (fun h => by have := (hr.lt _ h).1; omega)
  have HRG := Lib.hid (show ∀ u q', Rd ((w2.setCell ⟨w.heap.size, 0, none⟩ u).setCell ⟨w.heap.size, 1, none⟩ q') w.heap.size (.slice a2 sv.2.length d2) sv.2 from fun u q' => ((hr.grown (grown_setCell _ _ _ _) hne).grown (grown_setCell _ _ _ _) hne).mono (by omega))
  clear hr hb2 hfz hgr hne HM
  have hsp := set_pair (x0 := .int .i64 sv.1) (x1 := .slice a2 sv.2.length d2) c0 c1
  have HSP := Lib.hid hsp
  clear hsp
  go_wp2
  refine bodyPost_ret (ret_src rfl _ _ w.heap.size _ _ rfl HSP.out.1 HSP.out.2) rfl ?_
  exact ⟨_, rfl, HRG.out _ _, HGR.out _ _⟩

end Go.Proofs.Ytamibonkbpppmaa
