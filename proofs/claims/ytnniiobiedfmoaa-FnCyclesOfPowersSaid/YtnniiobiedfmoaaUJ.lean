/-
  A cycle with its least number first; where a run ends.
-/
import Derived.Test.YtnniiobiedfmoaaUI
import Derived.BigRegion
namespace Go.Proofs.Ytnniiobiedfmoaa
open Go.RowKit
set_option linter.unusedVariables false
set_option linter.unusedSimpArgs false
set_option maxRecDepth 100000

/-- The place of the least of the first k numbers. -/
def miTo (xs : List Int) : Nat → Nat
  | 0 => 0
  | k + 1 => if xs.getD k 0 < xs.getD (miTo xs k) 0 then k else miTo xs k
theorem miTo_succ (xs : List Int) (k : Nat) : miTo xs (k + 1) = if xs.getD k 0 < xs.getD (miTo xs k) 0 then k else miTo xs k := rfl
theorem miTo_lt (xs : List Int) : ∀ k, miTo xs k ≤ k - 1
  | 0 => Nat.le_refl _
  | k + 1 => by rw [miTo_succ]; have := miTo_lt xs k; split <;> omega
theorem miTo_min (xs : List Int) : ∀ k, k < xs.length → xs.getD (miTo xs (k + 1)) 0 = Lib.minOf (xs.take (k + 1))
  | 0, h => by
    rw [Lib.minOf_one]
    have : miTo xs (0 + 1) = 0 := by have := miTo_lt xs (0 + 1); omega
    rw [this]
  | k + 1, h => by
    have ih := miTo_min xs k (by omega)
    rw [Lib.minOf_step xs (k + 1) (by omega) h, ← ih, miTo_succ xs (k + 1)]
    split
    · omega
    · omega
/-- The place of the least number. -/
def mi (xs : List Int) : Nat := miTo xs xs.length
theorem mi_lt {xs : List Int} (h : 0 < xs.length) : mi xs < xs.length := by have := miTo_lt xs xs.length; unfold mi; omega
theorem mi_min {xs : List Int} (h : 0 < xs.length) : xs.getD (mi xs) 0 = Lib.minOf xs := by
  obtain ⟨k, hk⟩ : ∃ k, xs.length = k + 1 := ⟨xs.length - 1, by omega⟩
  unfold mi
  rw [hk, miTo_min xs k (by omega), ← hk, List.take_of_length_le (Nat.le_refl _)]
/-- A cycle turned. -/
def turn (xs : List Int) : List Int := xs.drop (mi xs) ++ xs.take (mi xs)
theorem turn_len (xs : List Int) : (turn xs).length = xs.length := by simp [turn]; omega
theorem turn_head {xs : List Int} (h : 0 < xs.length) : (turn xs).getD 0 0 = Lib.minOf xs := by
  rw [← mi_min h]
  have h2 := mi_lt h
  unfold turn
  rw [List.getD_eq_getElem?_getD, List.getElem?_append_left (by simp; omega), List.getElem?_drop, Nat.add_zero, ← List.getD_eq_getElem?_getD]

theorem src_cells {w : World} {g o c m : Nat} {xs : List Int} (h : CellsAt w g o xs) (hm : m = xs.length) : Src3 w (.slice (some ⟨g, o, none⟩) m c) xs := by
  subst hm
  refine .inr ⟨⟨g, o, none⟩, c, rfl, fun j hj => ?_⟩
  rw [addr_add3, h j hj, List.getD_eq_getElem?_getD, List.getElem?_eq_getElem hj]
  rfl
theorem CellsAt.drop {w : World} {g o : Nat} {xs : List Int} (h : CellsAt w g o xs) (t : Nat) : CellsAt w g (o + t) (xs.drop t) := by
  intro j hj
  rw [List.length_drop] at hj
  rw [Nat.add_assoc, h (t + j) (by omega)]
  congr 2
  simp [List.getD_eq_getElem?_getD, List.getElem?_drop]
theorem CellsAt.take {w : World} {g o : Nat} {xs : List Int} (h : CellsAt w g o xs) (t : Nat) : CellsAt w g o (xs.take t) := by
  intro j hj
  rw [List.length_take] at hj
  rw [h j (by omega)]
  congr 2
  simp [List.getD_eq_getElem?_getD, List.getElem?_take, show j < t by omega]
theorem CellsAt.keep {w w' : World} {g o : Nat} {xs : List Int} (h : CellsAt w g o xs) (hb : Below w.heap.size w w') : CellsAt w' g o xs := fun j hj => Below.keeps_cell hb (h j hj)
theorem CellsAt.drew {w : World} {g o : Nat} {xs : List Int} (h : CellsAt w g o xs) : CellsAt w.drew g o xs := h

set_option maxHeartbeats 1000000 in
theorem pwTurned_any (g o n c : Nat) (xs : List Int) (w : World) (h : CellsAt w g o xs) (hn : n = xs.length) (h0 : 0 < n) (hl : n ≤ 3000000) (hc : n ≤ c) :
    Calls Try.prog 69 #[.slice (some ⟨g, o, none⟩) n c] w fun e w' => ∃ u, e = .returned u ∧ Rd w' w.heap.size u (turn xs) ∧ Below w.heap.size w w' := by
  have H := Lib.hid h
  have HN := Lib.hid hn
  have HML := Lib.hid (miTo_lt xs)
  clear h hn
  go_enter Try.func69, Try.ntmps69
  go_wp2
  go_loop [3, 8] (fun at' i => ∃ (k q : Nat), k ≤ n ∧ q < n ∧ i = .int .i64 (k : Int) ∧ at' = .int .i64 (q : Int) ∧ miTo xs k = q) (fun _ i => n - (intOf i).toNat)
  case atStart => exact ⟨0, 0, by omega, h0, rfl, rfl, rfl⟩
  case round =>
    obtain ⟨k, q, hk, hqn, rfl, rfl, hq⟩ := hrel
    have HQ := Lib.hid hq
    clear hq
    by_cases hlt : k < n
    · have hck := H.out k (by rw [← HN.out]; exact hlt)
      have hcq := H.out q (by rw [← HN.out]; exact hqn)
      have HS := Lib.hid (miTo_succ xs k)
      rw [HQ.out] at HS
      obtain ⟨x, hx⟩ : ∃ x, x = xs.getD k 0 := ⟨_, rfl⟩
      obtain ⟨y, hy⟩ : ∃ y, y = xs.getD q 0 := ⟨_, rfl⟩
      rw [← hx] at hck HS
      rw [← hy] at hcq HS
      clear hx hy
      by_cases hxy : x < y
      · have HE := Lib.hid (show miTo xs (k + 1) = k by rw [HS.out, if_pos hxy])
        go_wp2
        go_round
        case rel => exact ⟨k + 1, k, by omega, by omega, by go_num, rfl, HE.out⟩
        case measure => simp [intOf]; omega
      · have HE := Lib.hid (show miTo xs (k + 1) = q by rw [HS.out, if_neg hxy])
        go_wp2
        go_round
        case rel => exact ⟨k + 1, q, by omega, hqn, by go_num, rfl, HE.out⟩
        case measure => simp [intOf]; omega
    · obtain rfl : k = n := by omega
      have HMI := Lib.hid (show turn xs = xs.drop q ++ xs.take q by unfold turn mi; rw [← HN.out, HQ.out])
      have HDL := Lib.hid (show (xs.drop q).length = k - q by rw [List.length_drop, ← HN.out])
      have HTL := Lib.hid (show (xs.take q).length = q by rw [List.length_take, ← HN.out]; omega)
      have HSD := Lib.hid (show ∀ (W1 : World) (cc : Nat), Below w.heap.size w W1 → Src3 W1 (.slice (some ⟨g, o + q, none⟩) (k - q) cc) (xs.drop q) from fun W1 cc hb => src_cells ((H.out.drop q).keep hb) HDL.out.symm)
      have hqc : ¬ c = q := by omega
      have hqc2 : q < c := by omega
      have hqk : q ≤ k := by omega
      have hqc3 : q ≤ c := by omega
      have HB0 := Lib.hid (show Below w.heap.size w w.drew from (Below.refl _ _).drew)
      have HST := Lib.hid (show ∀ W1 : World, Below w.heap.size w W1 → ∀ j (hj : j < (xs.take q).length), W1.cell? ((⟨g, o, none⟩ : Addr).add j) = some (.int .i64 (xs.take q)[j]) from fun W1 hb j hj => by
        rw [addr_add3, ((H.out.take q).keep hb) j hj, List.getD_eq_getElem?_getD, List.getElem?_eq_getElem hj]; rfl)
      go_wp2
      go_region_law (first
        | (refine step_appS rfl (.tmp 24) (.tmp 27) rfl w.heap.size _ (xs.drop q) (xs.take q) ⟨g, o, none⟩ q c rfl rfl HR1.out HTL.out (HST.out _ HB1.out) (by rw [HDL.out, HTL.out]; omega) HB1.out.size ?_; intro v2 w2 hr2 hg2 hb2; have HR2 := Lib.hid hr2; have HB2 := Lib.hid (HB1.out.trans hb2); clear hr2 hg2 hb2)
        | (go_simp; go_at_call 88; refine (own_src _ (xs.drop q) _ (HSD.out _ _ HB0.out) (by rw [HDL.out]; omega)).mono ?_; rintro e w1 ⟨v1, rfl, hr1, hb1⟩; have HR1 := Lib.hid hr1; have HB1 := Lib.hid (Below.step HB0.out HB0.out.size hb1); clear hr1 hb1))
      all_goals
        go_simp
        go_wp2
        go_ret
        exact ⟨_, rfl, by rw [HMI.out]; exact HR2.out, HB2.out⟩

theorem pwEnds_any (n b p : Nat) (w : World) (hn : n ≤ 1000000000000) (hb : 2 ≤ b) (hb' : b ≤ 16) (hp : 1 ≤ p) (hp' : p ≤ 4) :
    Calls Try.prog 46 #[.int .i64 (n : Int), .int .i64 (b : Int), .int .i64 (p : Int)] w fun e w' => e = .returned (.int .i64 (endOf (ps b p) PM n)) ∧ Below w.heap.size w w' := by
  obtain ⟨s1, s2, s3, s4, s5, s6⟩ := rl_spec (it_ps hb hb' hp' hn)
  have hpm : rl (ps b p) PM n ≤ 1012502 := by unfold PM at s2; exact s2
  have HRN := Lib.hid (show ∀ w' : World, Calls Try.prog 43 #[.int .i64 (n : Int), .int .i64 (b : Int), .int .i64 (p : Int)] w' fun e w'' => ∃ g c, e = .returned (.tuple #[.slice (some ⟨g, 0, none⟩) (rl (ps b p) PM n) c, .int .i64 ((tl (ps b p) PM n : Nat) : Int)]) ∧
      Rd w'' w'.heap.size (.slice (some ⟨g, 0, none⟩) (rl (ps b p) PM n) c) (run (ps b p) PM n) ∧ Below w'.heap.size w' w'' from fun w' => pwRun_any n b p w' hn hb hb' hp hp')
  obtain ⟨L, hL⟩ : ∃ L, L = rl (ps b p) PM n := ⟨_, rfl⟩
  obtain ⟨T, hTl⟩ : ∃ T, T = tl (ps b p) PM n := ⟨_, rfl⟩
  obtain ⟨xs, hxs⟩ : ∃ xs, xs = run (ps b p) PM n := ⟨_, rfl⟩
  have HE := Lib.hid (show endOf (ps b p) PM n = Lib.minOf (xs.drop T) by unfold endOf; rw [← hxs, ← hTl])
  have HXL := Lib.hid (show xs.length = L by rw [hxs, run_len, hL])
  rw [← hL, ← hTl, ← hxs] at HRN
  rw [← hL] at hpm s3 s1
  rw [← hTl] at s3
  clear s2 s4 s5 s6 hL hTl hxs
  go_enter Try.func46, Try.ntmps46
  go_wp2_with fail
  refine (HRN.out _).mono ?_
  rintro e w1 ⟨g, c, rfl, hr, hb1⟩
  have HB1 := Lib.hid hb1
  have hcap := hr.at.2.2.2.1
  rw [HXL.out] at hcap
  have HC := Lib.hid (hr.cellsAt T)
  have hTc : ¬ c = T := by omega
  have hTL : T ≤ L := by omega
  clear hb1 hr
  go_wp2_with fail
  refine (pwTurned_any g T (L - T) (c - T) (xs.drop T) _ HC.out (by rw [List.length_drop, HXL.out]) (by omega) (by omega) (by omega)).mono ?_
  rintro e w2 ⟨u, rfl, hr, hb2⟩
  have HB2 := Lib.hid (Below.step HB1.out HB1.out.size hb2)
  have hl0 : 0 < (xs.drop T).length := by rw [List.length_drop, HXL.out]; omega
  obtain ⟨gu, cu, rfl⟩ : ∃ gu cu, u = .slice (some ⟨gu, 0, none⟩) (L - T) cu := by
    rcases hr.cases with ⟨_, hx⟩ | ⟨gu, cu, hu, _⟩
    · have h9 := congrArg List.length hx; rw [turn_len] at h9; rw [h9] at hl0; exact absurd hl0 (Nat.lt_irrefl 0)
    · rw [turn_len, List.length_drop, HXL.out] at hu; exact ⟨gu, cu, hu⟩
  have hcell : w2.cell? ⟨gu, 0, none⟩ = some (.int .i64 (Lib.minOf (xs.drop T))) := by
    have h3 := hr.at.2.2.2.2.1 0 (by rw [turn_len]; exact hl0)
    rw [h3, ← turn_head hl0, List.getD_eq_getElem?_getD, List.getElem?_eq_getElem (by rw [turn_len]; exact hl0)]
    rfl
  have hpos : 0 < L - T := by omega
  clear hb2 hr hl0
  go_wp2
  go_ret
  exact ⟨by rw [HE.out]; rfl, HB2.out⟩

end Go.Proofs.Ytnniiobiedfmoaa
