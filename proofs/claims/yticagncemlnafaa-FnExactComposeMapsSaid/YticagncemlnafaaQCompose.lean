/-
  Answers of ComposeMaps.
-/
import Derived.Test.YticagncemlnafaaPH
namespace Go.Proofs.Yticagncemlnafaa
open Go.RowKit
set_option linter.unusedVariables false
set_option linter.unusedSimpArgs false
set_option maxRecDepth 100000

def OK_ComposeMaps (xs ys : List Int) : Bool := goodM xs && (goodM ys && decide (xs.length = ys.length))
def LF_ComposeMaps (xs ys : List Int) : List Int := if OK_ComposeMaps xs ys = true then lst xs.length (fun x => fnO ys (fnO xs x)) else []
theorem LF_ComposeMaps_len (xs ys : List Int) (h : xs.length ≤ 1048576) (h2 : ys.length ≤ 1048576) : (LF_ComposeMaps xs ys).length ≤ 2000000 := by
  unfold LF_ComposeMaps
  split
  · rw [lst_len]; omega
  · simp
theorem Rd.shape {w : World} {B : Nat} {v : Value} {xs : List Int} (h : Rd w B v xs) : ∃ a cap, v = .slice a xs.length cap := by
  rcases h.cases with ⟨rfl, rfl⟩ | ⟨g, cap, rfl, _⟩
  · exact ⟨_, _, rfl⟩
  · exact ⟨_, _, rfl⟩

theorem impl_ComposeMaps (v u : Value) (xs ys : List Int) (B C : Nat) (w : World) (h : Rd w B v xs) (h2 : Rd w C u ys) (hl : xs.length ≤ 1048576) (hl2 : ys.length ≤ 1048576) :
    Calls Try.prog 45 #[v, u] w fun e w' => ∃ z, e = .returned (.tuple #[z, .bool (OK_ComposeMaps xs ys)]) ∧ Rd w' w.heap.size z (LF_ComposeMaps xs ys) ∧ Below w.heap.size w w' := by
  have H1 := Lib.hid h
  have H2 := Lib.hid h2
  have HX := Lib.hid hl
  have HY := Lib.hid hl2
  cases q1 : goodM xs
  · have HO := Lib.hid (show OK_ComposeMaps xs ys = false by unfold OK_ComposeMaps; rw [q1]; rfl)
    have HL := Lib.hid (show LF_ComposeMaps xs ys = [] by unfold LF_ComposeMaps; rw [HO.out]; rfl)
    clear h h2 hl hl2
    go_enter Try.func45, Try.ntmps45
    go_wp2_with (go_at_call 21; refine (IsMap_any _ xs _ _ H1.out (by have := HX.out; omega)).mono ?_; rw [q1]; rintro e w1 ⟨rfl, rfl⟩)
    go_ret2
    exact ⟨_, by rw [HO.out]; rfl, by rw [HL.out]; exact Rd.nil _ _, Below.refl _ _⟩
  · cases q2 : goodM ys
    · have HO := Lib.hid (show OK_ComposeMaps xs ys = false by unfold OK_ComposeMaps; rw [q1, q2]; rfl)
      have HL := Lib.hid (show LF_ComposeMaps xs ys = [] by unfold LF_ComposeMaps; rw [HO.out]; rfl)
      clear h h2 hl hl2
      go_enter Try.func45, Try.ntmps45
      go_wp2_with fail
      refine (IsMap_any _ xs _ _ H1.out (by have := HX.out; omega)).mono ?_
      rw [q1]
      rintro e w1 ⟨rfl, rfl⟩
      go_wp2_with fail
      refine (IsMap_any _ ys _ _ H2.out (by have := HY.out; omega)).mono ?_
      rw [q2]
      rintro e w2 ⟨rfl, rfl⟩
      go_wp2
      go_ret2
      exact ⟨_, by rw [HO.out]; rfl, by rw [HL.out]; exact Rd.nil _ _, Below.refl _ _⟩
    · by_cases he : xs.length = ys.length
      · obtain ⟨g, n, cap, f, rfl, hm, hn, hf, hxs, _⟩ := h.good q1
        obtain ⟨g2, n2, cap2, f2, rfl, hm2, hn2, hf2, hxs2, _⟩ := h2.good q2
        obtain rfl : n2 = n := by omega
        have HM := Lib.hid hm
        have HM2 := Lib.hid hm2
        have n0 := hm.n0
        have n1 := hm.n1
        have HO := Lib.hid (show OK_ComposeMaps xs ys = true by unfold OK_ComposeMaps; rw [q1, q2, decide_eq_true he]; rfl)
        have HL := Lib.hid (show LF_ComposeMaps xs ys = lst n2 (fun x => f2 (f x)) by unfold LF_ComposeMaps; rw [if_pos HO.out, ← hf, ← hf2, ← hn])
        have hne : ((n2 : Int) != (n2 : Int)) = false := bne_no rfl
        clear h h2 hm hm2 hn hn2 hf hf2 hxs hxs2 hl hl2 he
        go_enter Try.func45, Try.ntmps45
        go_wp2_with fail
        refine (IsMap_any _ xs _ _ H1.out (by have := HX.out; omega)).mono ?_
        rw [q1]
        rintro e w1 ⟨rfl, rfl⟩
        go_wp2_with fail
        refine (IsMap_any _ ys _ _ H2.out (by have := HY.out; omega)).mono ?_
        rw [q2]
        rintro e w2 ⟨rfl, rfl⟩
        go_wp2_with ((go_at_call 79; refine (then_any g n2 cap g2 cap2 f f2 _ HM.out HM2.out).mono ?_; rintro e w3 ⟨g3, c3, rfl, hr, hb⟩; have HR := Lib.hid hr; have HB := Lib.hid hb; clear hr hb))
        go_ret2
        exact ⟨_, by rw [HO.out]; rfl, by rw [HL.out]; exact HR.out, HB.out⟩
      · obtain ⟨a, cap, rfl⟩ := h.shape
        obtain ⟨a2, cap2, rfl⟩ := h2.shape
        have HO := Lib.hid (show OK_ComposeMaps xs ys = false by unfold OK_ComposeMaps; rw [q1, q2, decide_eq_false he]; rfl)
        have HL := Lib.hid (show LF_ComposeMaps xs ys = [] by unfold LF_ComposeMaps; rw [HO.out]; rfl)
        have hne : ((xs.length : Int) != (ys.length : Int)) = true := bne_yes (by omega)
        clear h h2 hl hl2 he
        go_enter Try.func45, Try.ntmps45
        go_wp2_with fail
        refine (IsMap_any _ xs _ _ H1.out (by have := HX.out; omega)).mono ?_
        rw [q1]
        rintro e w1 ⟨rfl, rfl⟩
        go_wp2_with fail
        refine (IsMap_any _ ys _ _ H2.out (by have := HY.out; omega)).mono ?_
        rw [q2]
        rintro e w2 ⟨rfl, rfl⟩
        go_wp2
        go_ret2
        exact ⟨_, by rw [HO.out]; rfl, by rw [HL.out]; exact Rd.nil _ _, Below.refl _ _⟩

theorem spec_ComposeMaps (v u : Value) (xs ys : List Int) (B C : Nat) (w : World) (h : Rd w B v xs) (h2 : Rd w C u ys) (hl : xs.length ≤ 1048576) (hl2 : ys.length ≤ 1048576) :
    Calls Try.prog 44 #[v, u] w fun e w' => ∃ z, e = .returned (.tuple #[z, .bool (OK_ComposeMaps xs ys)]) ∧ Rd w' w.heap.size z (LF_ComposeMaps xs ys) ∧ Below w.heap.size w w' := by
  have H1 := Lib.hid h
  have H2 := Lib.hid h2
  have HX := Lib.hid hl
  have HY := Lib.hid hl2
  cases q1 : goodM xs
  · have HO := Lib.hid (show OK_ComposeMaps xs ys = false by unfold OK_ComposeMaps; rw [q1]; rfl)
    have HL := Lib.hid (show LF_ComposeMaps xs ys = [] by unfold LF_ComposeMaps; rw [HO.out]; rfl)
    clear h h2 hl hl2
    go_enter Try.func44, Try.ntmps44
    go_wp2_with (go_at_call 58; refine (mpGood_any _ xs _ _ H1.out (by have := HX.out; omega)).mono ?_; rw [q1]; rintro e w1 ⟨rfl, rfl⟩)
    go_ret2
    exact ⟨_, by rw [HO.out]; rfl, by rw [HL.out]; exact Rd.nil _ _, Below.refl _ _⟩
  · cases q2 : goodM ys
    · have HO := Lib.hid (show OK_ComposeMaps xs ys = false by unfold OK_ComposeMaps; rw [q1, q2]; rfl)
      have HL := Lib.hid (show LF_ComposeMaps xs ys = [] by unfold LF_ComposeMaps; rw [HO.out]; rfl)
      clear h h2 hl hl2
      go_enter Try.func44, Try.ntmps44
      go_wp2_with fail
      refine (mpGood_any _ xs _ _ H1.out (by have := HX.out; omega)).mono ?_
      rw [q1]
      rintro e w1 ⟨rfl, rfl⟩
      go_wp2_with fail
      refine (mpGood_any _ ys _ _ H2.out (by have := HY.out; omega)).mono ?_
      rw [q2]
      rintro e w2 ⟨rfl, rfl⟩
      go_wp2
      go_ret2
      exact ⟨_, by rw [HO.out]; rfl, by rw [HL.out]; exact Rd.nil _ _, Below.refl _ _⟩
    · by_cases he : xs.length = ys.length
      · obtain ⟨g, n, cap, f, rfl, hm, hn, hf, hxs, _⟩ := h.good q1
        obtain ⟨g2, n2, cap2, f2, rfl, hm2, hn2, hf2, hxs2, _⟩ := h2.good q2
        obtain rfl : n2 = n := by omega
        have HM := Lib.hid hm
        have HM2 := Lib.hid hm2
        have n0 := hm.n0
        have n1 := hm.n1
        have HO := Lib.hid (show OK_ComposeMaps xs ys = true by unfold OK_ComposeMaps; rw [q1, q2, decide_eq_true he]; rfl)
        have HL := Lib.hid (show LF_ComposeMaps xs ys = lst n2 (fun x => f2 (f x)) by unfold LF_ComposeMaps; rw [if_pos HO.out, ← hf, ← hf2, ← hn])
        have hne : ((n2 : Int) != (n2 : Int)) = false := bne_no rfl
        clear h h2 hm hm2 hn hn2 hf hf2 hxs hxs2 hl hl2 he
        go_enter Try.func44, Try.ntmps44
        go_wp2_with fail
        refine (mpGood_any _ xs _ _ H1.out (by have := HX.out; omega)).mono ?_
        rw [q1]
        rintro e w1 ⟨rfl, rfl⟩
        go_wp2_with fail
        refine (mpGood_any _ ys _ _ H2.out (by have := HY.out; omega)).mono ?_
        rw [q2]
        rintro e w2 ⟨rfl, rfl⟩
        go_wp2
        go_loopw [6, 26] (fun z i wr => ∃ k : Nat, k ≤ n2 ∧ i = .int .i64 k ∧ Rd wr w.heap.size z (lst k (fun x => f2 (f x))) ∧ Below w.heap.size w wr) (fun _ i _ => n2 - (intOf i).toNat)
        case atStart => exact ⟨0, Nat.zero_le _, rfl, Rd.nil _ _, Below.refl _ _⟩
        case round =>
          obtain ⟨k, hk, rfl, hr, hb⟩ := hrel
          have HR := Lib.hid hr
          have HB := Lib.hid hb
          clear hr hb
          by_cases hlt : k < n2
          · have hcell := (HM.out.keep HB.out).cell k hlt
            have hfk := HM.out.into k hlt
            have hcell2 := (HM2.out.keep HB.out).cell (f k) hfk
            have HK := Lib.hid (lst_len k (fun x => f2 (f x)))
            go_wp2_with (at_builtin; refine wpList_appR rfl _ _ rfl w.heap.size w.heap.size _ _ (lst k (fun x => f2 (f x))) [((f2 (f k) : Nat) : Int)] rfl rfl (HR.out.alloc _) (Rd.litB _ _ _ HB.out.size) (by rw [HK.out]; simp; omega) (by have := HB.out.size; simp; omega) ?_; intro v1 w3 hr1 hg1 hb1)
            have HR3 := Lib.hid hr1
            have HB3 := Lib.hid ((HB.out.alloc HB.out.size _).trans hb1)
            clear hr1 hg1 hb1
            go_wp2
            go_roundw
            case rel => exact ⟨k + 1, by omega, by go_num, by rw [lst_succ]; exact HR3.out, HB3.out⟩
            case measure => simp [intOf]; omega
          · obtain rfl : k = n2 := by omega
            go_wp2
            go_ret2
            exact ⟨_, by rw [HO.out]; rfl, by rw [HL.out]; exact HR.out, HB.out⟩
      · obtain ⟨a, cap, rfl⟩ := h.shape
        obtain ⟨a2, cap2, rfl⟩ := h2.shape
        have HO := Lib.hid (show OK_ComposeMaps xs ys = false by unfold OK_ComposeMaps; rw [q1, q2, decide_eq_false he]; rfl)
        have HL := Lib.hid (show LF_ComposeMaps xs ys = [] by unfold LF_ComposeMaps; rw [HO.out]; rfl)
        have hne : ((xs.length : Int) != (ys.length : Int)) = true := bne_yes (by omega)
        clear h h2 hl hl2 he
        go_enter Try.func44, Try.ntmps44
        go_wp2_with fail
        refine (mpGood_any _ xs _ _ H1.out (by have := HX.out; omega)).mono ?_
        rw [q1]
        rintro e w1 ⟨rfl, rfl⟩
        go_wp2_with fail
        refine (mpGood_any _ ys _ _ H2.out (by have := HY.out; omega)).mono ?_
        rw [q2]
        rintro e w2 ⟨rfl, rfl⟩
        go_wp2
        go_ret2
        exact ⟨_, by rw [HO.out]; rfl, by rw [HL.out]; exact Rd.nil _ _, Below.refl _ _⟩

end Go.Proofs.Yticagncemlnafaa
