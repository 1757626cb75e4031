/-
  Answers of RenameMap.
-/
import Derived.Test.YticagncemlnafaaQR
import Derived.Test.YticagncemlnafaaQCompose
namespace Go.Proofs.Yticagncemlnafaa
open Go.RowKit
set_option linter.unusedVariables false
set_option linter.unusedSimpArgs false
set_option maxRecDepth 100000

def OK_RenameMap (xs ys : List Int) : Bool := goodM xs && (decide (xs.length = ys.length) && (goodM ys && onto (fnO ys) ys.length))
/-- The map in which x is called q x. -/
def renF (f q : Nat → Nat) (n y : Nat) : Nat := q (f (fst (fun x => q x == y) n))
def LF_RenameMap (xs ys : List Int) : List Int := if OK_RenameMap xs ys = true then lst xs.length (renF (fnO xs) (fnO ys) xs.length) else []
theorem LF_RenameMap_len (xs ys : List Int) (h : xs.length ≤ 1048576) (h2 : ys.length ≤ 1048576) : (LF_RenameMap xs ys).length ≤ 2000000 := by
  unfold LF_RenameMap
  split
  · rw [lst_len]; omega
  · simp
theorem ren_done {f q F : Nat → Nat} {n : Nat} (ho : onto q n = true) (hF : ∀ x, x < n → F (q x) = q (f x)) : lst n F = lst n (renF f q n) := by
  refine lst_congr fun y hy => ?_
  obtain ⟨x, hx, he⟩ := onto_iff.1 ho y hy
  obtain ⟨h1, h2, h3⟩ := fst_spec n (fun x => q x == y) ⟨x, by omega, by simp [he]⟩
  have hle : fst (fun x => q x == y) n ≤ x := by
    by_cases h : x < fst (fun x => q x == y) n
    · have := h3 x h; simp [he] at this
    · omega
  have hq : q (fst (fun x => q x == y) n) = y := by simpa using h2
  unfold renF
  rw [← hF _ (by omega), hq]
theorem ren_step {f q F : Nat → Nat} {n k : Nat} (hk : k < n) (hi : ∀ i j, i < n → j < n → q i = q j → i = j) (hF : ∀ x, x < k → F (q x) = q (f x)) : ∀ x, x < k + 1 → (fun y => if y = q k then q (f k) else F y) (q x) = q (f x) := by
  intro x hx
  by_cases e : x = k
  · subst e; simp
  · have : q x ≠ q k := fun h => e (hi x k (by omega) hk h)
    simp only [this, if_false]
    exact hF x (by omega)
theorem onto_inj {q : Nat → Nat} {n : Nat} (hq : Into q n) (ho : onto q n = true) : ∀ i j, i < n → j < n → q i = q j → i = j := by
  rw [onto_nodup hq, decide_eq_true_iff] at ho
  unfold List.Nodup at ho
  rw [List.pairwise_map] at ho
  intro i j hi hj he
  have h1 := List.pairwise_iff_getElem.1 ho
  by_cases h : i < j
  · exact absurd (by rw [List.getElem_range, List.getElem_range]; exact he) (h1 i j (by simpa using hi) (by simpa using hj) h)
  · by_cases h2 : j < i
    · exact absurd (by rw [List.getElem_range, List.getElem_range]; exact he.symm) (h1 j i (by simpa using hj) (by simpa using hi) h2)
    · omega

theorem impl_RenameMap (v u : Value) (xs ys : List Int) (B C : Nat) (w : World) (h : Rd w B v xs) (h2 : Rd w C u ys) (hl : xs.length ≤ 1048576) (hl2 : ys.length ≤ 1048576) :
    Calls Try.prog 53 #[v, u] w fun e w' => ∃ z, e = .returned (.tuple #[z, .bool (OK_RenameMap xs ys)]) ∧ Rd w' w.heap.size z (LF_RenameMap xs ys) ∧ Below w.heap.size w w' := by
  have H1 := Lib.hid h
  have H2 := Lib.hid h2
  have HX := Lib.hid hl
  have HY := Lib.hid hl2
  cases q1 : goodM xs
  · have HO := Lib.hid (show OK_RenameMap xs ys = false by unfold OK_RenameMap; rw [q1]; rfl)
    have HL := Lib.hid (show LF_RenameMap xs ys = [] by unfold LF_RenameMap; rw [HO.out]; rfl)
    clear h h2 hl hl2
    go_enter Try.func53, Try.ntmps53
    go_wp2_with (go_at_call 21; refine (IsMap_any _ xs _ _ H1.out (by have := HX.out; omega)).mono ?_; rw [q1]; rintro e w1 ⟨rfl, rfl⟩)
    go_ret2
    exact ⟨_, by rw [HO.out]; rfl, by rw [HL.out]; exact Rd.nil _ _, Below.refl _ _⟩
  · by_cases he : xs.length = ys.length
    · cases hqq : (goodM ys && onto (fnO ys) ys.length)
      · have HO := Lib.hid (show OK_RenameMap xs ys = false by unfold OK_RenameMap; rw [q1, hqq, Bool.and_false]; rfl)
        have HL := Lib.hid (show LF_RenameMap xs ys = [] by unfold LF_RenameMap; rw [HO.out]; rfl)
        obtain ⟨a, cap, rfl⟩ := h.shape
        obtain ⟨a2, cap2, rfl⟩ := h2.shape
        have hne : ((ys.length : Int) != (xs.length : Int)) = false := bne_no (by omega)
        have HQ := Lib.hid hqq
        clear h h2 hl hl2 he hqq
        go_enter Try.func53, Try.ntmps53
        go_wp2_with (first | (go_at_call 21; refine (IsMap_any _ xs _ _ H1.out (by have := HX.out; omega)).mono ?_; rw [q1]; rintro e w1 ⟨rfl, rfl⟩) | (go_at_call 88; refine (eachOnce_any _ ys _ _ H2.out (by have := HY.out; omega)).mono ?_; rw [HQ.out]; rintro e w1 ⟨rfl, hb⟩; have HB := Lib.hid hb; clear hb))
        go_ret2
        exact ⟨_, by rw [HO.out]; rfl, by rw [HL.out]; exact Rd.nil _ _, HB.out⟩
      · have hq := hqq
        obtain ⟨q3, q4⟩ := Bool.and_eq_true_iff.1 hq
        obtain ⟨g, n, cap, f, rfl, hm, hn, hf, hxs, _⟩ := h.good q1
        obtain ⟨g2, n2, cap2, f2, rfl, hm2, hn2, hf2, hxs2, _⟩ := h2.good q3
        obtain rfl : n2 = n := by omega
        have HM := Lib.hid hm
        have HM2 := Lib.hid hm2
        have n0 := hm.n0
        have n1 := hm.n1
        have HOT := Lib.hid (show onto f2 n2 = true by rw [hf2, hn2]; exact q4)
        have HIJ := Lib.hid (onto_inj HM2.out.into HOT.out)
        have HO := Lib.hid (show OK_RenameMap xs ys = true by unfold OK_RenameMap; rw [q1, q3, q4, decide_eq_true he]; rfl)
        have HL := Lib.hid (show LF_RenameMap xs ys = lst n2 (renF f f2 n2) by unfold LF_RenameMap; rw [if_pos HO.out, ← hf, ← hf2, ← hn])
        have HQ := Lib.hid hq
        have HN2 := Lib.hid hn2
        have HN := Lib.hid hn
        have hne : ((n2 : Int) != (n2 : Int)) = false := bne_no rfl
        clear h h2 hm hm2 hn hn2 hf hf2 hxs hxs2 hl hl2 he hq hqq q3 q4
        go_enter Try.func53, Try.ntmps53
        go_wp2_with fail
        refine (IsMap_any _ xs _ _ H1.out (by have := HX.out; omega)).mono ?_
        rw [q1]
        rintro e w1 ⟨rfl, rfl⟩
        go_wp2_with fail
        refine (eachOnce_any _ ys _ _ H2.out (by have := HY.out; omega)).mono ?_
        rw [HQ.out]
        rintro e w1 ⟨rfl, hb⟩
        have HB1 := Lib.hid hb
        clear hb
        go_wp2_with (at_make; refine wpList_mkM rfl _ _ _ Try.underlying22 rfl .i64 .i64 _ _ n2 rfl rfl rfl rfl (by omega) ?_; intro w2 hr2 hg2 hb2)
        have HRm := Lib.hid hr2
        have HBm := Lib.hid (Below.step HB1.out HB1.out.size hb2)
        have HSZ := Lib.hid HB1.out.size
        clear hr2 hg2 hb2
        go_loopw [29] (fun i wr => ∃ (k : Nat) (F : Nat → Nat), k ≤ n2 ∧ i = .int .i64 k ∧ Rd wr w1.heap.size (.slice (some ⟨w1.heap.size, 0, none⟩) n2 n2) (lst n2 F) ∧ (∀ x, x < k → F (f2 x) = f2 (f x)) ∧ Below w.heap.size w wr) (fun i _ => n2 - (intOf i).toNat)
        case atStart => exact ⟨0, _, Nat.zero_le _, rfl, HRm.out, fun x hx => absurd hx (Nat.not_lt_zero _), HBm.out⟩
        case round =>
          obtain ⟨k, F, hk, rfl, hr, hF, hb⟩ := hrel
          have HR := Lib.hid hr
          have HFx := Lib.hid hF
          have HB := Lib.hid hb
          clear hr hF hb
          by_cases hlt : k < n2
          · have hfk := HM.out.into k hlt
            have hqk := HM2.out.into k hlt
            have hqf := HM2.out.into (f k) hfk
            have hc1 := (HM.out.keep HB.out).cell k hlt
            have hc2 := (HM2.out.keep HB.out).cell k hlt
            have hc3 := (HM2.out.keep HB.out).cell (f k) hfk
            obtain ⟨hcs, hfs⟩ := HR.out.at.2.2.2.2
            obtain ⟨z, hd⟩ : ∃ z, wr.cell? ⟨w1.heap.size, f2 k, none⟩ = some (.int .i64 z) := ⟨_, hcs (f2 k) (by rw [lst_len]; omega)⟩
            have hf := hfs (f2 k)
            have HS := Lib.hid (HR.out.drew.setL (f2 k) (f2 (f k)))
            have HBs := Lib.hid (HB.out.drew.setCell (p := ⟨w1.heap.size, f2 k, none⟩) HSZ.out (.int .i64 ((f2 (f k) : Nat) : Int)))
            have HFs := Lib.hid (ren_step hlt HIJ.out HFx.out)
            clear hcs hfs
            go_wp2
            go_region
            all_goals
              go_wp2
              go_roundw
              case rel => exact ⟨k + 1, _, by omega, by go_num, HS.out.1, HFs.out, HBs.out⟩
              case measure => simp [intOf]; omega
          · obtain rfl : k = n2 := by omega
            have HDn := Lib.hid (ren_done HOT.out HFx.out)
            go_wp2
            go_ret2
            exact ⟨_, by rw [HO.out]; rfl, by rw [HL.out, ← HDn.out]; exact HR.out.mono HSZ.out, HB.out⟩
    · have HO := Lib.hid (show OK_RenameMap xs ys = false by unfold OK_RenameMap; rw [q1, decide_eq_false he]; rfl)
      have HL := Lib.hid (show LF_RenameMap xs ys = [] by unfold LF_RenameMap; rw [HO.out]; rfl)
      obtain ⟨a, cap, rfl⟩ := h.shape
      obtain ⟨a2, cap2, rfl⟩ := h2.shape
      have hne : ((ys.length : Int) != (xs.length : Int)) = true := bne_yes (by omega)
      clear h h2 hl hl2 he
      go_enter Try.func53, Try.ntmps53
      go_wp2_with (go_at_call 21; refine (IsMap_any _ xs _ _ H1.out (by have := HX.out; omega)).mono ?_; rw [q1]; rintro e w1 ⟨rfl, rfl⟩)
      go_ret2
      exact ⟨_, by rw [HO.out]; rfl, by rw [HL.out]; exact Rd.nil _ _, Below.refl _ _⟩

theorem spec_RenameMap (v u : Value) (xs ys : List Int) (B C : Nat) (w : World) (h : Rd w B v xs) (h2 : Rd w C u ys) (hl : xs.length ≤ 1048576) (hl2 : ys.length ≤ 1048576) :
    Calls Try.prog 52 #[v, u] w fun e w' => ∃ z, e = .returned (.tuple #[z, .bool (OK_RenameMap xs ys)]) ∧ Rd w' w.heap.size z (LF_RenameMap xs ys) ∧ Below w.heap.size w w' := by
  have H1 := Lib.hid h
  have H2 := Lib.hid h2
  have HX := Lib.hid hl
  have HY := Lib.hid hl2
  cases q1 : goodM xs
  · have HO := Lib.hid (show OK_RenameMap xs ys = false by unfold OK_RenameMap; rw [q1]; rfl)
    have HL := Lib.hid (show LF_RenameMap xs ys = [] by unfold LF_RenameMap; rw [HO.out]; rfl)
    clear h h2 hl hl2
    go_enter Try.func52, Try.ntmps52
    go_wp2_with (go_at_call 58; refine (mpGood_any _ xs _ _ H1.out (by have := HX.out; omega)).mono ?_; rw [q1]; rintro e w1 ⟨rfl, rfl⟩)
    go_ret2
    exact ⟨_, by rw [HO.out]; rfl, by rw [HL.out]; exact Rd.nil _ _, Below.refl _ _⟩
  · obtain ⟨hx1, hx60, _⟩ := (good_can q1).2
    by_cases he : xs.length = ys.length
    · cases hqq : (goodM ys && onto (fnO ys) ys.length)
      · have HO := Lib.hid (show OK_RenameMap xs ys = false by unfold OK_RenameMap; rw [q1, hqq, Bool.and_false]; rfl)
        have HL := Lib.hid (show LF_RenameMap xs ys = [] by unfold LF_RenameMap; rw [HO.out]; rfl)
        have HQ := Lib.hid (show namesB xs.length ys = false by rw [namesB_eq hx1 hx60 he.symm]; exact hqq)
        obtain ⟨a, cap, rfl⟩ := h.shape
        clear h h2 hl hl2 he hqq
        go_enter Try.func52, Try.ntmps52
        go_wp2_with (first | (go_at_call 58; refine (mpGood_any _ xs _ _ H1.out (by have := HX.out; omega)).mono ?_; rw [q1]; rintro e w1 ⟨rfl, rfl⟩) | (go_at_call 87; refine (mpNames_any _ ys xs.length _ _ H2.out (by have := HY.out; omega) hx1 hx60).mono ?_; rw [HQ.out]; rintro e w1 ⟨rfl, rfl⟩))
        go_ret2
        exact ⟨_, by rw [HO.out]; rfl, by rw [HL.out]; exact Rd.nil _ _, Below.refl _ _⟩
      · have hq := hqq
        obtain ⟨q3, q4⟩ := Bool.and_eq_true_iff.1 hq
        obtain ⟨g, n, cap, f, rfl, hm, hn, hf, hxs, _⟩ := h.good q1
        obtain ⟨g2, n2, cap2, f2, rfl, hm2, hn2, hf2, hxs2, _⟩ := h2.good q3
        obtain rfl : n2 = n := by omega
        have HM := Lib.hid hm
        have HM2 := Lib.hid hm2
        have n0 := hm.n0
        have n1 := hm.n1
        have HOT := Lib.hid (show onto f2 n2 = true by rw [hf2, hn2]; exact q4)
        have HIJ := Lib.hid (onto_inj HM2.out.into HOT.out)
        have HO := Lib.hid (show OK_RenameMap xs ys = true by unfold OK_RenameMap; rw [q1, q3, q4, decide_eq_true he]; rfl)
        have HL := Lib.hid (show LF_RenameMap xs ys = lst n2 (renF f f2 n2) by unfold LF_RenameMap; rw [if_pos HO.out, ← hf, ← hf2, ← hn])
        have HQ := Lib.hid hq
        have HN2 := Lib.hid hn2
        have HN := Lib.hid hn
        have hne : ((n2 : Int) != (n2 : Int)) = false := bne_no rfl
        clear h h2 hm hm2 hn hn2 hf hf2 hxs hxs2 hl hl2 he hq hqq q3 q4
        go_enter Try.func52, Try.ntmps52
        have HQ2 := Lib.hid (show namesB n2 ys = true by rw [namesB_eq n0 n1 HN2.out.symm]; exact HQ.out)
        go_wp2_with fail
        refine (mpGood_any _ xs _ _ H1.out (by have := HX.out; omega)).mono ?_
        rw [q1]
        rintro e w1 ⟨rfl, rfl⟩
        go_wp2_with fail
        refine (mpNames_any _ ys n2 _ _ H2.out (by have := HY.out; omega) n0 n1).mono ?_
        rw [HQ2.out]
        rintro e w1 ⟨rfl, rfl⟩
        go_wp2_with (at_make; refine wpList_mkM rfl _ _ _ Try.underlying22 rfl .i64 .i64 _ _ n2 rfl rfl rfl rfl (by omega) ?_; intro w2 hr2 hg2 hb2)
        have HRm := Lib.hid hr2
        have HBm := Lib.hid hb2
        have HSZ := Lib.hid (Nat.le_refl w.heap.size)
        clear hr2 hg2 hb2
        go_loopw [24] (fun i wr => ∃ (k : Nat) (F : Nat → Nat), k ≤ n2 ∧ i = .int .i64 k ∧ Rd wr w.heap.size (.slice (some ⟨w.heap.size, 0, none⟩) n2 n2) (lst n2 F) ∧ (∀ x, x < k → F (f2 x) = f2 (f x)) ∧ Below w.heap.size w wr) (fun i _ => n2 - (intOf i).toNat)
        case atStart => exact ⟨0, _, Nat.zero_le _, rfl, HRm.out, fun x hx => absurd hx (Nat.not_lt_zero _), HBm.out⟩
        case round =>
          obtain ⟨k, F, hk, rfl, hr, hF, hb⟩ := hrel
          have HR := Lib.hid hr
          have HFx := Lib.hid hF
          have HB := Lib.hid hb
          clear hr hF hb
          by_cases hlt : k < n2
          · have hfk := HM.out.into k hlt
            have hqk := HM2.out.into k hlt
            have hqf := HM2.out.into (f k) hfk
            have hc1 := (HM.out.keep HB.out).cell k hlt
            have hc2 := (HM2.out.keep HB.out).cell k hlt
            have hc3 := (HM2.out.keep HB.out).cell (f k) hfk
            obtain ⟨hcs, hfs⟩ := HR.out.at.2.2.2.2
            obtain ⟨z, hd⟩ : ∃ z, wr.cell? ⟨w.heap.size, f2 k, none⟩ = some (.int .i64 z) := ⟨_, hcs (f2 k) (by rw [lst_len]; omega)⟩
            have hf := hfs (f2 k)
            have HS := Lib.hid (HR.out.drew.setL (f2 k) (f2 (f k)))
            have HBs := Lib.hid (HB.out.drew.setCell (p := ⟨w.heap.size, f2 k, none⟩) HSZ.out (.int .i64 ((f2 (f k) : Nat) : Int)))
            have HFs := Lib.hid (ren_step hlt HIJ.out HFx.out)
            clear hcs hfs
            go_wp2
            go_region
            all_goals
              go_wp2
              go_roundw
              case rel => exact ⟨k + 1, _, by omega, by go_num, HS.out.1, HFs.out, HBs.out⟩
              case measure => simp [intOf]; omega
          · obtain rfl : k = n2 := by omega
            have HDn := Lib.hid (ren_done HOT.out HFx.out)
            go_wp2
            go_ret2
            exact ⟨_, by rw [HO.out]; rfl, by rw [HL.out, ← HDn.out]; exact HR.out.mono HSZ.out, HB.out⟩
    · have HO := Lib.hid (show OK_RenameMap xs ys = false by unfold OK_RenameMap; rw [q1, decide_eq_false he]; rfl)
      have HL := Lib.hid (show LF_RenameMap xs ys = [] by unfold LF_RenameMap; rw [HO.out]; rfl)
      have HQ := Lib.hid (show namesB xs.length ys = false by unfold namesB; rw [decide_eq_false (fun e => he e.symm)]; rfl)
      obtain ⟨a, cap, rfl⟩ := h.shape
      clear h h2 hl hl2 he
      go_enter Try.func52, Try.ntmps52
      go_wp2_with (first | (go_at_call 58; refine (mpGood_any _ xs _ _ H1.out (by have := HX.out; omega)).mono ?_; rw [q1]; rintro e w1 ⟨rfl, rfl⟩) | (go_at_call 87; refine (mpNames_any _ ys xs.length _ _ H2.out (by have := HY.out; omega) hx1 hx60).mono ?_; rw [HQ.out]; rintro e w1 ⟨rfl, rfl⟩))
      go_ret2
      exact ⟨_, by rw [HO.out]; rfl, by rw [HL.out]; exact Rd.nil _ _, Below.refl _ _⟩

end Go.Proofs.Yticagncemlnafaa
