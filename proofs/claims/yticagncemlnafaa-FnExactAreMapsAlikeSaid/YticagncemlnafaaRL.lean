/-
  Answers of AreMapsAlike.
-/
import Derived.Test.YticagncemlnafaaRK
namespace Go.Proofs.Yticagncemlnafaa
open Go.RowKit
set_option linter.unusedVariables false
set_option linter.unusedSimpArgs false
set_option maxRecDepth 100000
set_option maxHeartbeats 1000000

def OK_AreMapsAlike (xs ys : List Int) : Bool := goodM xs && goodM ys
def VA_AreMapsAlike (xs ys : List Int) : Bool := goodM xs && goodM ys && (NM_ xs == NM_ ys)
abbrev R_AreMapsAlike (xs ys : List Int) : Value := .tuple #[.bool (VA_AreMapsAlike xs ys), .bool (OK_AreMapsAlike xs ys)]

theorem impl_AreMapsAlike (v u : Value) (xs ys : List Int) (B C : Nat) (w : World) (h : Rd w B v xs) (h2 : Rd w C u ys) (hl : xs.length ≤ 1048576) (hl2 : ys.length ≤ 1048576) :
    Calls Try.prog 57 #[v, u] w fun e w' => e = .returned (R_AreMapsAlike xs ys) ∧ Below w.heap.size w w' := by
  have H := Lib.hid h
  have H2 := Lib.hid h2
  clear h h2
  obtain ⟨a, ha⟩ : ∃ a, a = NM_ xs := ⟨_, rfl⟩
  obtain ⟨b, hb⟩ : ∃ b, b = NM_ ys := ⟨_, rfl⟩
  obtain ⟨p, hp⟩ : ∃ p, p = goodM xs := ⟨_, rfl⟩
  obtain ⟨q, hq⟩ : ∃ q, q = goodM ys := ⟨_, rfl⟩
  have HA := Lib.hid (show R_NameOfMap xs = .tuple #[.string ⟨a.toArray⟩, .bool p] by rw [ha, hp]; rfl)
  have HB := Lib.hid (show R_NameOfMap ys = .tuple #[.string ⟨b.toArray⟩, .bool q] by rw [hb, hq]; rfl)
  have HE := Lib.hid (show R_AreMapsAlike xs ys = .tuple #[.bool (p && q && (a == b)), .bool (p && q)] by rw [ha, hb, hp, hq]; rfl)
  clear ha hb hp hq
  go_enter Try.func57, Try.ntmps57
  go_wp2_with fail
  refine (impl_NameOfMap _ xs _ _ H.out hl).mono ?_
  rw [HA.out]
  rintro e w1 ⟨rfl, hb⟩
  have HB1 := Lib.hid hb
  have H3 := Lib.hid (H2.out.keep hb)
  clear hb
  go_wp2_with fail
  refine (impl_NameOfMap _ ys _ _ H3.out hl2).mono ?_
  rw [HB.out]
  rintro e w2 ⟨rfl, hb⟩
  have HB2 := Lib.hid (Below.step HB1.out HB1.out.size hb)
  clear hb
  cases p <;> cases q
  · go_wp2
    go_ret2
    exact ⟨by rw [HE.out]; rfl, HB2.out⟩
  · go_wp2
    go_ret2
    exact ⟨by rw [HE.out]; rfl, HB2.out⟩
  · go_wp2
    go_ret2
    exact ⟨by rw [HE.out]; rfl, HB2.out⟩
  · go_wp2
    go_ret2
    exact ⟨by rw [HE.out]; simp, HB2.out⟩

theorem spec_AreMapsAlike (v u : Value) (xs ys : List Int) (B C : Nat) (w : World) (h : Rd w B v xs) (h2 : Rd w C u ys) (hl : xs.length ≤ 1048576) (hl2 : ys.length ≤ 1048576) :
    Calls Try.prog 56 #[v, u] w fun e w' => e = .returned (R_AreMapsAlike xs ys) ∧ Below w.heap.size w w' := by
  have H := Lib.hid h
  have H2 := Lib.hid h2
  cases hq : goodM xs
  · have HE := Lib.hid (show R_AreMapsAlike xs ys = .tuple #[.bool false, .bool false] by rw [R_AreMapsAlike, VA_AreMapsAlike, OK_AreMapsAlike, hq]; rfl)
    clear h h2
    go_enter Try.func56, Try.ntmps56
    go_wp2_with (go_at_call 58; refine (mpGood_any _ xs _ _ H.out (by omega)).mono ?_; rw [hq]; rintro e w1 ⟨rfl, rfl⟩)
    go_ret2
    exact ⟨by rw [HE.out]; rfl, Below.refl _ _⟩
  · cases hq2 : goodM ys
    · have HE := Lib.hid (show R_AreMapsAlike xs ys = .tuple #[.bool false, .bool false] by rw [R_AreMapsAlike, VA_AreMapsAlike, OK_AreMapsAlike, hq, hq2]; rfl)
      clear h h2
      go_enter Try.func56, Try.ntmps56
      go_wp2_with fail
      refine (mpGood_any _ xs _ _ H.out (by omega)).mono ?_
      rw [hq]
      rintro e w1 ⟨rfl, rfl⟩
      go_wp2_with fail
      refine (mpGood_any _ ys _ _ H2.out (by omega)).mono ?_
      rw [hq2]
      rintro e w1 ⟨rfl, rfl⟩
      go_wp2
      go_ret2
      exact ⟨by rw [HE.out]; rfl, Below.refl _ _⟩
    · obtain ⟨g, n, cap, f, rfl, hm, hn, hf, hxs, _⟩ := h.good hq
      obtain ⟨g2, n2, cap2, f2, rfl, hm2, hn2, hf2, hxs2, _⟩ := h2.good hq2
      have HM := Lib.hid hm
      have HM2 := Lib.hid hm2
      obtain ⟨a, ha⟩ : ∃ a, a = nameT f n := ⟨_, rfl⟩
      obtain ⟨b, hb⟩ : ∃ b, b = nameT f2 n2 := ⟨_, rfl⟩
      have HAE := Lib.hid ha
      have HBE := Lib.hid hb
      have ea : NM_ xs = a := by unfold NM_; rw [if_pos hq, ha, ← hf, ← hn]
      have eb : NM_ ys = b := by unfold NM_; rw [if_pos hq2, hb, ← hf2, ← hn2]
      have HE := Lib.hid (show R_AreMapsAlike xs ys = .tuple #[.bool (a == b), .bool true] by rw [R_AreMapsAlike, VA_AreMapsAlike, OK_AreMapsAlike, hq, hq2, ea, eb]; rfl)
      have HQ := Lib.hid hq
      have HQ2 := Lib.hid hq2
      have HLx := Lib.hid hl
      have HLy := Lib.hid hl2
      clear h h2 hm hn hf hxs hm2 hn2 hf2 hxs2 ha hb ea eb hq hq2 hl hl2
      go_enter Try.func56, Try.ntmps56
      go_wp2_with fail
      refine (mpGood_any _ xs _ _ H.out (Nat.le_trans HLx.out (by omega))).mono ?_
      rw [HQ.out]
      rintro e w1 ⟨rfl, rfl⟩
      go_wp2_with fail
      refine (mpGood_any _ ys _ _ H2.out (Nat.le_trans HLy.out (by omega))).mono ?_
      rw [HQ2.out]
      rintro e w1 ⟨rfl, rfl⟩
      go_wp2_with fail
      refine (mpName_any g n cap f _ HM.out).mono ?_
      rw [← HAE.out]
      rintro e w1 ⟨rfl, hb⟩
      have HB1 := Lib.hid hb
      have HM3 := Lib.hid (HM2.out.keep hb)
      clear hb
      go_wp2_with fail
      refine (mpName_any g2 n2 cap2 f2 _ HM3.out).mono ?_
      rw [← HBE.out]
      rintro e w2 ⟨rfl, hb⟩
      have HB2 := Lib.hid (Below.step HB1.out HB1.out.size hb)
      clear hb
      go_wp2
      go_ret2
      exact ⟨by rw [HE.out]; simp, HB2.out⟩

end Go.Proofs.Yticagncemlnafaa
