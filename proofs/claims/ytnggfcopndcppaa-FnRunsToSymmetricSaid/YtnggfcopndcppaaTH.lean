/-
  Carries, symmetric digits, sums: the program's methods.
-/
import Derived.Test.YtnggfcopndcppaaTG
import Derived.Test.YtnggfcopndcppaaS2
import Derived.Lib.Slices
namespace Go.Proofs.Ytnggfcopndcppaa
open Go.RowKit
set_option linter.unusedVariables false
set_option linter.unusedSimpArgs false
set_option maxRecDepth 100000

theorem carries_any (g cap : Nat) (xs : List Int) (b : Int) (B : Nat) (w : World) (h : Rd w B (.slice (some ⟨g, 0, none⟩) xs.length cap) xs) (hd : Dg b xs) :
    Calls Try.prog 48 #[lng (.slice (some ⟨g, 0, none⟩) xs.length cap) b] w fun e w' => ∃ g2, e = .returned (.slice (some ⟨g2, 0, none⟩) xs.length xs.length) ∧ Rd w' w.heap.size (.slice (some ⟨g2, 0, none⟩) xs.length xs.length) (cyA b (smA 1 1 xs) 0) ∧ Below w.heap.size w w' := by
  have H := Lib.hid h
  have HD := Lib.hid hd
  have HAL := Lib.hid (alloc_below w (.cells #[.slice (some ⟨g, 0, none⟩) xs.length cap, .int .i64 b] 56))
  clear h hd
  go_enter Try.func48, Try.ntmps48
  go_wp2_with (go_at_call 92; go_loud (refine (add_any g cap xs b 1 1 B _ (H.out.keep HAL.out) HD.out (.inl rfl) (.inl rfl) (.inl rfl)).mono ?_; rintro e w1 ⟨g1, g2, rfl, hr1, hr2, hb1⟩; have R2 := Lib.hid (hr2.mono HAL.out.size); have B1 := Lib.hid (Below.step HAL.out HAL.out.size hb1); clear hr1 hr2 hb1))
  go_ret
  exact ⟨g2, rfl, R2.out, B1.out⟩

theorem noCarry_iff {b : Int} {xs : List Int} (hd : Dg b xs) : (∀ x ∈ cyA b (smA 1 1 xs) 0, x = 0) ↔ ¬ 1 ∈ cyA b (smA 1 1 xs) 0 := by
  have h := cyA_all b hd.b2 _ 0 (smA_pos b xs hd.all) (by omega) (by omega)
  constructor
  · intro h2 hc
    have := h2 1 hc
    omega
  · intro h2 x hx
    have h3 := h x hx
    by_cases e : x = 1
    · rw [e] at hx; exact absurd hx h2
    · omega

/-- Nothing is carried. -/
def ncB (b : Int) (xs : List Int) : Bool := allIn 0 0 (cyA b (smA 1 1 xs) 0)
theorem ncB_not {b : Int} {xs : List Int} (hd : Dg b xs) : ncB b xs = !decide (1 ∈ cyA b (smA 1 1 xs) 0) := by
  have h := noCarry_iff hd
  by_cases h1 : 1 ∈ cyA b (smA 1 1 xs) 0
  · rw [decide_eq_true h1]
    show ncB b xs = false
    refine Bool.eq_false_iff.2 (fun hc => ?_)
    have := (allIn_iff _ _ _).1 hc 1 h1
    omega
  · rw [decide_eq_false h1]
    show ncB b xs = true
    refine (allIn_iff _ _ _).2 (fun x hx => ?_)
    have := h.2 h1 x hx
    omega

theorem contains_any (g cap : Nat) (xs : List Int) (x : Int) (B : Nat) (w : World) (h : Rd w B (.slice (some ⟨g, 0, none⟩) xs.length cap) xs) (hl : xs.length ≤ 1000000) :
    Calls Try.prog 94 #[.slice (some ⟨g, 0, none⟩) xs.length cap, .int .i64 x] w fun e w' => e = .returned (.bool (decide (x ∈ xs))) ∧ w = w' := by
  have H := Lib.hid h
  have HI := Lib.hid (Try.slices_Index_int g 0 xs.length cap xs x w (Nat.le_refl _) (by omega) (fun j hj => by
    rw [Nat.zero_add, h.at.2.2.2.2.1 j hj, List.getD_eq_getElem?_getD, List.getElem?_eq_getElem hj]; rfl))
  clear h
  go_enter Try.func94, Try.ntmps94
  go_wp2_with (go_at_call 79; go_loud (refine HI.out.mono ?_; rintro e w1 ⟨rfl, rfl⟩))
  go_ret
  refine ⟨ret_bool ?_, rfl⟩
  rw [Bool.eq_iff_iff, decide_eq_true_iff, decide_eq_true_iff, Lib.idxOf_nonneg_iff, List.contains_iff_mem]

theorem isSymmetric_any (g cap : Nat) (xs : List Int) (b : Int) (B : Nat) (w : World) (h : Rd w B (.slice (some ⟨g, 0, none⟩) xs.length cap) xs) (h1 : 1 ≤ xs.length) (hl : xs.length ≤ 1000000) :
    Calls Try.prog 56 #[lng (.slice (some ⟨g, 0, none⟩) xs.length cap) b] w fun e w' => e = .returned (.bool (palB xs)) ∧ Below w.heap.size w w' := by
  have H := Lib.hid h
  have HAL := Lib.hid (alloc_below w (.cells #[.slice (some ⟨g, 0, none⟩) xs.length cap, .int .i64 b] 56))
  have HM := Lib.hid (palB_mir xs)
  have hml := Lib.hid (mir_len xs)
  clear h
  obtain ⟨w1, hw1⟩ : ∃ w1, w1 = w.alloc (.cells #[.slice (some ⟨g, 0, none⟩) xs.length cap, .int .i64 b] 56) := ⟨_, rfl⟩
  have HC0 := Lib.hid (show w1.cell? ⟨w.heap.size, 0, none⟩ = some (.slice (some ⟨g, 0, none⟩) xs.length cap) by rw [hw1]; simp [go_sem])
  rw [← hw1] at HAL
  have H1 := Lib.hid (H.out.keep HAL.out)
  go_enter Try.func56, Try.ntmps56
  go_wp2
  rw [← hw1]
  clear hw1
  have c0 : w1.drew.cell? ⟨w.heap.size, 0, none⟩ = some (.slice (some ⟨g, 0, none⟩) xs.length cap) := HC0.out
  go_region_held3 (fun w' => w'.cell? ⟨w.heap.size, 0, none⟩ = some (.slice (some ⟨g, 0, none⟩) xs.length cap)) (first | exact c0 | exact c1 | exact c2) (first
    | (go_at_call 96; go_loud (refine (mirrored_any _ _ _ _ _ _ H1.out.drew h1 (by omega)).mono ?_; rintro e w2 ⟨g2, cap2, rfl, hr, hbl⟩; have c1 := Below.keeps_cell hbl c0; have HR1 := Lib.hid (H1.out.drew.keep hbl); have HR2 := Lib.hid hr; have HB2 := Lib.hid (Below.step HAL.out.drew HAL.out.drew.size hbl); clear hbl hr))
    | (go_at_call 95; go_loud (refine (equal_any _ _ xs (mir xs) _ HR1.out.sl HR2.out.sl (by omega) (by rw [hml.out]; omega)).mono ?_; rw [HM.out]; rintro e w3 ⟨rfl, hbl⟩; have c2 := Below.keeps_cell hbl c1; have HB3 := Lib.hid (Below.step HB2.out HB2.out.size hbl); clear hbl)))
  all_goals
    go_wp2
    go_ret
    exact ⟨rfl, HB3.out⟩

theorem hasNoCarry_any (g cap : Nat) (xs : List Int) (b : Int) (B : Nat) (w : World) (h : Rd w B (.slice (some ⟨g, 0, none⟩) xs.length cap) xs) (hd : Dg b xs) :
    Calls Try.prog 50 #[lng (.slice (some ⟨g, 0, none⟩) xs.length cap) b] w fun e w' => e = .returned (.bool (ncB b xs)) ∧ Below w.heap.size w w' := by
  have H := Lib.hid h
  have HD := Lib.hid hd
  have HAL := Lib.hid (alloc_below w (.cells #[.slice (some ⟨g, 0, none⟩) xs.length cap, .int .i64 b] 56))
  have HN := Lib.hid (ncB_not hd)
  have hcl := cyA_len b (smA 1 1 xs) 0
  rw [smA_len] at hcl
  have h40 := hd.l40
  have HCL := Lib.hid hcl
  clear h hd hcl
  rw [HN.out]
  go_enter Try.func50, Try.ntmps50
  go_wp2_with (first
    | (go_at_call 48; go_loud (refine (carries_any g cap xs b B _ (H.out.keep HAL.out) HD.out).mono ?_; rintro e w1 ⟨g2, rfl, hr2, hb1⟩; have R2 := Lib.hid (hr2.mono HAL.out.size); have B1 := Lib.hid (Below.step HAL.out HAL.out.size hb1); clear hr2 hb1; have HK := Lib.hid (contains_any g2 xs.length (cyA b (smA 1 1 xs) 0) 1 _ _ (by rw [HCL.out]; exact R2.out) (by rw [HCL.out]; omega)); rw [HCL.out] at HK))
    | (go_at_call 94; go_loud (refine HK.out.mono ?_; rintro e w2 ⟨rfl, rfl⟩)))
  go_ret
  exact ⟨ret_bool rfl, B1.out⟩

end Go.Proofs.Ytnggfcopndcppaa
