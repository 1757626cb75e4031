/-
  Answers of EndsOf.
-/
import Derived.Test.YticagncemlnafaaPD
namespace Go.Proofs.Yticagncemlnafaa
open Go.RowKit
set_option linter.unusedVariables false
set_option linter.unusedSimpArgs false

def endL (f : Nat → Nat) (n : Nat) : List Int := nts (inOrder n fun y => !img f n 1 y)
theorem endL_len (f : Nat → Nat) (n : Nat) (hf : Into f n) (h0 : 1 ≤ n) (h1 : n ≤ 60) : (endL f n).length ≤ 2000000 := by unfold endL; rw [nts_len]; have := inOrder_len n fun y => !img f n 1 y; omega

def OK_EndsOf (xs : List Int) : Bool := goodM xs
def LF_EndsOf (xs : List Int) : List Int := if goodM xs = true then endL (fnO xs) xs.length else []
theorem LF_EndsOf_len (xs : List Int) (h : xs.length ≤ 1048576) : (LF_EndsOf xs).length ≤ 2000000 := by
  unfold LF_EndsOf
  split
  · rename_i hq
    obtain ⟨hc, h1, h2, h3⟩ := good_can hq
    have := endL_len (fnO xs) xs.length h3 h1 h2
    omega
  · simp

theorem ask_ends (v : Value) (xs : List Int) (B : Nat) (w : World) (h : Rd w B v xs) (hl : xs.length ≤ 1048576) :
    Calls Try.prog 74 #[v, .func (Fn.func 78) #[] #[]] w fun e w' => ∃ u, e = .returned (.tuple #[u, .bool (OK_EndsOf xs)]) ∧ Rd w' w.heap.size u (LF_EndsOf xs) ∧ Below w.heap.size w w' := by
  have H := Lib.hid h
  by_cases hq : goodM xs = true
  · obtain ⟨g, n, cap, f, rfl, hm, hn, hf, hxs, _⟩ := h.good hq
    have HM := Lib.hid hm
    have n0 := hm.n0
    have n1 := hm.n1
    have HN := Lib.hid hn
    have HO := Lib.hid (show OK_EndsOf xs = true from hq)
    have HL := Lib.hid (show LF_EndsOf xs = endL f n by unfold LF_EndsOf; rw [if_pos hq, ← hf, ← hn])
    clear h hm hn hf hxs hl
    go_enter Try.func74, Try.ntmps74
    go_wp2_with (first | (go_at_call 21; refine (IsMap_any _ xs _ _ H.out (by have := HN.out; omega)).mono ?_; rintro e w1 ⟨rfl, rfl⟩) | (go_at_call 78; refine (ends_any g n cap f _ HM.out).mono ?_; rintro e w1 ⟨u, rfl, hr, hb⟩; have HR := Lib.hid hr; have HB := Lib.hid hb; clear hr hb))
    go_ret2
    exact ⟨_, by rw [HO.out]; rfl, by rw [HL.out]; exact HR.out, HB.out⟩
  · have hq' : goodM xs = false := by simpa using hq
    have HO := Lib.hid (show OK_EndsOf xs = false from hq')
    have HL := Lib.hid (show LF_EndsOf xs = [] by unfold LF_EndsOf; rw [hq']; rfl)
    clear h hq
    go_enter Try.func74, Try.ntmps74
    go_wp2_with (go_at_call 21; refine (IsMap_any _ xs _ _ H.out (by omega)).mono ?_; rintro e w1 ⟨rfl, rfl⟩)
    go_ret2
    exact ⟨_, by rw [HO.out]; rfl, by rw [HL.out]; exact Rd.nil _ _, Below.refl _ _⟩

theorem impl_EndsOf (v : Value) (xs : List Int) (B : Nat) (w : World) (h : Rd w B v xs) (hl : xs.length ≤ 1048576) :
    Calls Try.prog 41 #[v] w fun e w' => ∃ u, e = .returned (.tuple #[u, .bool (OK_EndsOf xs)]) ∧ Rd w' w.heap.size u (LF_EndsOf xs) ∧ Below w.heap.size w w' := by
  have H := Lib.hid h
  clear h
  go_enter Try.func41, Try.ntmps41
  go_wp2_with (go_at_call 74; refine (ask_ends _ xs _ _ H.out hl).mono ?_; rintro e w1 ⟨u, rfl, hr, hb⟩; have HR := Lib.hid hr; have HB := Lib.hid hb; clear hr hb)
  go_ret2
  exact ⟨_, rfl, HR.out, HB.out⟩

theorem bef_end {f : Nat → Nat} {n x : Nat} : befL f x n = [] ↔ img f n 1 x = false := by
  unfold befL img
  rw [List.filter_eq_nil_iff, List.any_eq_false]
  rfl
theorem inOrder_succ (k : Nat) (s : Nat → Bool) : inOrder (k + 1) s = if s k = true then inOrder k s ++ [k] else inOrder k s := by
  unfold inOrder
  rw [List.range_succ, List.filter_append]
  by_cases h : s k = true <;> simp [h]

theorem spec_EndsOf (v : Value) (xs : List Int) (B : Nat) (w : World) (h : Rd w B v xs) (hl : xs.length ≤ 1048576) :
    Calls Try.prog 40 #[v] w fun e w' => ∃ u, e = .returned (.tuple #[u, .bool (OK_EndsOf xs)]) ∧ Rd w' w.heap.size u (LF_EndsOf xs) ∧ Below w.heap.size w w' := by
  have H := Lib.hid h
  by_cases hq : goodM xs = true
  · obtain ⟨g, n, cap, f, rfl, hm, hn, hf, hxs, _⟩ := h.good hq
    have HM := Lib.hid hm
    have n0 := hm.n0
    have n1 := hm.n1
    have HN := Lib.hid hn
    have HO := Lib.hid (show OK_EndsOf xs = true from hq)
    have HL := Lib.hid (show LF_EndsOf xs = endL f n by unfold LF_EndsOf; rw [if_pos hq, ← hf, ← hn])
    clear h hm hn hf hxs hl
    go_enter Try.func40, Try.ntmps40
    go_wp2_with (go_at_call 58; refine (mpGood_any _ xs _ _ H.out (by have := HN.out; omega)).mono ?_; rintro e w1 ⟨rfl, rfl⟩)
    go_loopw [4, 11] (fun u i wr => ∃ k : Nat, k ≤ n ∧ i = .int .i64 k ∧ Rd wr w.heap.size u (nts (inOrder k fun y => !img f n 1 y)) ∧ Below w.heap.size w wr) (fun _ i _ => n - (intOf i).toNat)
    case atStart => exact ⟨0, Nat.zero_le _, rfl, Rd.nil _ _, Below.refl _ _⟩
    case round =>
      obtain ⟨k, hk, rfl, hr, hb⟩ := hrel
      have HR := Lib.hid hr
      have HB := Lib.hid hb
      clear hr hb
      by_cases hlt : k < n
      · go_wp2_with fail
        refine (mpBefore_any g n cap f k _ (HM.out.keep HB.out)).mono ?_
        rintro e w2 ⟨u2, rfl, hr2, hb2⟩
        obtain ⟨a2, c2, rfl⟩ := hr2.sl.len
        rw [nts_len]
        have HR2 := Lib.hid (HR.out.keep hb2)
        have HB2 := Lib.hid (Below.step HB.out HB.out.size hb2)
        clear hr2 hb2
        have HS := Lib.hid (inOrder_succ k fun y => !img f n 1 y)
        have hle := befL_len f k n
        have HIL := Lib.hid (Nat.le_trans (inOrder_len k fun y => !img f n 1 y) hk)
        by_cases he : img f n 1 k = false
        · have h0 := bef_end.2 he
          have HE := Lib.hid (show inOrder (k + 1) (fun y => !img f n 1 y) = inOrder k (fun y => !img f n 1 y) ++ [k] by rw [HS.out, if_pos (by rw [he]; rfl)])
          rw [h0]
          clear he h0
          go_wp2_with (at_builtin; refine wpList_appR rfl _ _ rfl w.heap.size w.heap.size _ _ (nts (inOrder k fun y => !img f n 1 y)) [(k : Int)] rfl rfl (HR2.out.alloc _) (Rd.litB _ _ _ HB2.out.size) (by rw [nts_len]; have := HIL.out; simp; omega) (by have := HB2.out.size; simp; omega) ?_; intro v1 w3 hr1 hg1 hb1)
          have HR3 := Lib.hid hr1
          have HB3 := Lib.hid ((HB2.out.alloc HB2.out.size _).trans hb1)
          clear hr1 hg1 hb1
          go_wp2
          go_roundw
          case rel => exact ⟨k + 1, by omega, by go_num, by rw [HE.out, nts_snoc]; exact HR3.out, HB3.out⟩
          case measure => simp [intOf]; omega
        · have he' : img f n 1 k = true := by simpa using he
          have h0 : (befL f k n).length ≠ 0 := fun h => he (bef_end.1 (List.eq_nil_of_length_eq_zero h))
          have hbq : (((befL f k n).length : Int) == 0) = false := beq_no (by omega)
          have HE := Lib.hid (show inOrder (k + 1) (fun y => !img f n 1 y) = inOrder k (fun y => !img f n 1 y) by rw [HS.out, if_neg (by rw [he']; simp)])
          clear he he' h0
          go_wp2
          go_roundw
          case rel => exact ⟨k + 1, by omega, by go_num, by rw [HE.out]; exact HR2.out, HB2.out⟩
          case measure => simp [intOf]; omega
      · obtain rfl : k = n := by omega
        go_wp2
        go_ret2
        exact ⟨_, by rw [HO.out]; rfl, by rw [HL.out]; exact HR.out, HB.out⟩
  · have hq' : goodM xs = false := by simpa using hq
    have HO := Lib.hid (show OK_EndsOf xs = false from hq')
    have HL := Lib.hid (show LF_EndsOf xs = [] by unfold LF_EndsOf; rw [hq']; rfl)
    clear h hq
    go_enter Try.func40, Try.ntmps40
    go_wp2_with (go_at_call 58; refine (mpGood_any _ xs _ _ H.out (by omega)).mono ?_; rintro e w1 ⟨rfl, rfl⟩)
    go_ret2
    exact ⟨_, by rw [HO.out]; rfl, by rw [HL.out]; exact Rd.nil _ _, Below.refl _ _⟩

end Go.Proofs.Yticagncemlnafaa
