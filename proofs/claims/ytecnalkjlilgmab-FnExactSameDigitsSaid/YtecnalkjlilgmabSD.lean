/-
  SameDigits: the model, the program, the law.
-/
import Derived.Test.YtecnalkjlilgmabG5
namespace Go.Proofs.Ytecnalkjlilgmab
open Go.RowKit
set_option linter.unusedVariables false
set_option linter.unusedSimpArgs false

def okSame (m n b : Int) : Bool := okq m b && okq n b
def RSame (m n b : Int) : Bool := okSame m n b && decide (cnt b (dgs b m) = cnt b (dgs b n))
theorem okSame_yes {m n b : Int} (hm : Num m) (hn : Num n) (hb : Bas b) : okSame m n b = true ∧ RSame m n b = decide (cnt b (dgs b m) = cnt b (dgs b n)) := by
  simp [RSame, okSame, okq_yes (And.intro hm hb), okq_yes (And.intro hn hb)]
theorem okSame_no {m n b : Int} (h : ¬ (Num m ∧ Num n ∧ Bas b)) : okSame m n b = false ∧ RSame m n b = false := by
  have : okSame m n b = false := by
    by_cases h1 : Num m ∧ Bas b
    · have h2 : ¬ (Num n ∧ Bas b) := fun h2 => h ⟨h1.1, h2.1, h2.2⟩
      simp [okSame, okq_no h2]
    · simp [okSame, okq_no h1]
  simp [RSame, this]

theorem cnt_len2 (b : Int) (xs : List Int) (hb : 2 ≤ b) (hb' : b ≤ 16) : (cnt b xs).length ≤ 2000000 := by rw [cnt_len]; omega

theorem spec_SameDigits (m n b : Int) (w : World) :
    Calls Try.prog 13 #[.int .i64 m, .int .i64 n, .int .i64 b] w fun e w' => e = .returned (.tuple #[.bool (RSame m n b), .bool (okSame m n b)]) ∧ Below w.heap.size w w' := by
  by_cases hq : Num m ∧ Bas b
  · have a1 : decide (Num m ∧ Bas b) = true := decide_eq_true hq
    by_cases hn : Num n
    · have a2 : decide (Num n) = true := decide_eq_true hn
      have hD := Lib.hid (okSame_yes hq.1 hn hq.2)
      obtain ⟨⟨m0, m1⟩, b0, b1⟩ := hq
      obtain ⟨n0, n1⟩ := hn
      have hallm := Lib.hid (dgs_all b m b0 m0)
      have hlenm := Lib.hid (dgs_len40 b m b0 m0 m1)
      have halln := Lib.hid (dgs_all b n b0 n0)
      have hlenn := Lib.hid (dgs_len40 b n b0 n0 n1)
      go_enter Try.func13, Try.ntmps13
      go_wp2_with (first | (go_at_call 31; refine (dgAsked_any _ _ _).mono ?_; rintro e w1 ⟨rfl, rfl⟩) | (go_at_call 32; refine (dgNumber_any _ _).mono ?_; rintro e w1 ⟨rfl, rfl⟩))
      refine (dgOf_s m b _ m0 m1 b0 b1).mono ?_
      rintro e w1 ⟨g, cap, rfl, hr, hbl⟩
      have HR := Lib.hid hr
      have HB := Lib.hid hbl
      clear hr hbl
      go_wp2_with fail
      refine (dgCounts_any _ _ _ _ _ HR.out b0 b1 hallm.out (by have := hlenm.out; omega)).mono ?_
      rintro e w2 ⟨u, rfl, hr, hbl⟩
      have HR2 := Lib.hid hr
      have HB2 := Lib.hid (Below.step HB.out HB.out.size hbl)
      clear hr hbl
      go_wp2_with fail
      refine (dgOf_s n b _ n0 n1 b0 b1).mono ?_
      rintro e w3 ⟨g3, cap3, rfl, hr, hbl⟩
      have HR3 := Lib.hid hr
      have HR2b := Lib.hid (HR2.out.keep hbl)
      have HB3 := Lib.hid (Below.step HB2.out HB2.out.size hbl)
      clear hr hbl
      go_wp2_with fail
      refine (dgCounts_any _ _ _ _ _ HR3.out b0 b1 halln.out (by have := hlenn.out; omega)).mono ?_
      rintro e w4 ⟨u4, rfl, hr, hbl⟩
      have HR4 := Lib.hid hr
      have HR2c := Lib.hid (HR2b.out.keep hbl)
      have HB4 := Lib.hid (Below.step HB3.out HB3.out.size hbl)
      clear hr hbl
      go_wp2_with fail
      refine (l1Same_any _ _ (cnt b (dgs b m)) (cnt b (dgs b n)) _ HR2c.out.sl HR4.out.sl (cnt_len2 _ _ b0 b1) (cnt_len2 _ _ b0 b1)).mono ?_
      rintro e w5 ⟨rfl, hbl⟩
      have HB5 := Lib.hid (Below.step HB4.out HB4.out.size hbl)
      clear hbl
      rw [← hD.out.2]
      go_wp2
      go_ret2
      exact ⟨by rw [hD.out.1]; rfl, HB5.out⟩
    · have a2 : decide (Num n) = false := decide_eq_false hn
      have hD := Lib.hid (okSame_no (m := m) (n := n) (b := b) (fun h => hn h.2.1))
      clear hn hq
      go_enter Try.func13, Try.ntmps13
      go_wp2_with (first | (go_at_call 31; refine (dgAsked_any _ _ _).mono ?_; rintro e w1 ⟨rfl, rfl⟩) | (go_at_call 32; refine (dgNumber_any _ _).mono ?_; rintro e w1 ⟨rfl, rfl⟩))
      go_ret2
      exact ⟨by rw [hD.out.1, hD.out.2]; rfl, Below.refl _ _⟩
  · have a1 : decide (Num m ∧ Bas b) = false := decide_eq_false hq
    have hD := Lib.hid (okSame_no (m := m) (n := n) (b := b) (fun h => hq ⟨h.1, h.2.2⟩))
    clear hq
    go_enter Try.func13, Try.ntmps13
    go_wp2_with (first | (go_at_call 31; refine (dgAsked_any _ _ _).mono ?_; rintro e w1 ⟨rfl, rfl⟩) | (go_at_call 32; refine (dgNumber_any _ _).mono ?_; rintro e w1 ⟨rfl, rfl⟩))
    go_ret2
    exact ⟨by rw [hD.out.1, hD.out.2]; rfl, Below.refl _ _⟩

theorem askL_cnt_len2 (n b : Int) : (askL LDigitCounts n b).length ≤ 2000000 := by
  unfold askL
  split
  · rename_i h; have := h.2.2; rw [LDigitCounts, cnt_len]; omega
  · simp

theorem okSame_eq (m n b : Int) : okSame m n b = (okq m b && okq n b) := rfl
theorem RSame_of {m n b : Int} (h : okSame m n b = true) : decide (askL LDigitCounts m b = askL LDigitCounts n b) = RSame m n b := by
  have hm : okq m b = true := by simp only [okSame, Bool.and_eq_true] at h; exact h.1
  have hn : okq n b = true := by simp only [okSame, Bool.and_eq_true] at h; exact h.2
  have hm' : Num m ∧ Bas b := of_decide_eq_true hm
  have hn' : Num n ∧ Bas b := of_decide_eq_true hn
  simp [RSame, h, askL, hm', hn', LDigitCounts]

theorem impl_SameDigits (m n b : Int) (w : World) :
    Calls Try.prog 14 #[.int .i64 m, .int .i64 n, .int .i64 b] w fun e w' => e = .returned (.tuple #[.bool (RSame m n b), .bool (okSame m n b)]) ∧ Below w.heap.size w w' := by
  by_cases hok : okSame m n b = true
  · have hR := Lib.hid (RSame_of hok)
    have hm : okq m b = true := by simp only [okSame, Bool.and_eq_true] at hok; exact hok.1
    have hn : okq n b = true := by simp only [okSame, Bool.and_eq_true] at hok; exact hok.2
    have HO := Lib.hid hok
    clear hok
    have l1 := Lib.hid (askL_cnt_len2 m b)
    have l2 := Lib.hid (askL_cnt_len2 n b)
    go_enter Try.func14, Try.ntmps14
    go_wp2_with fail
    refine (impl_DigitCounts m b _).mono ?_
    rintro e w1 ⟨u, rfl, hr, hbl⟩
    have HR := Lib.hid hr
    have HB := Lib.hid hbl
    clear hr hbl
    go_wp2_with fail
    refine (impl_DigitCounts n b _).mono ?_
    rintro e w2 ⟨u2, rfl, hr, hbl⟩
    have HR2 := Lib.hid hr
    have HR1 := Lib.hid (HR.out.keep hbl)
    have HB2 := Lib.hid (Below.step HB.out HB.out.size hbl)
    clear hr hbl
    go_wp2_with fail
    refine (equal_any _ _ _ _ _ HR1.out.sl HR2.out.sl l1.out l2.out).mono ?_
    rintro e w5 ⟨rfl, hbl⟩
    have HB5 := Lib.hid (Below.step HB2.out HB2.out.size hbl)
    clear hbl
    rw [hR.out]
    go_wp2
    go_ret2
    exact ⟨by rw [HO.out]; rfl, HB5.out⟩
  · have hD : okSame m n b = false := by simpa using hok
    have hR : RSame m n b = false := by simp [RSame, hD]
    have HD := Lib.hid hD
    have HR0 := Lib.hid hR
    have hno := hD
    rw [okSame_eq, Bool.and_eq_false_iff] at hno
    clear hok hD hR
    by_cases hm : okq m b = true
    · have hn : okq n b = false := by rcases hno with h | h <;> simp_all
      clear hno
      go_enter Try.func14, Try.ntmps14
      go_wp2_with fail
      refine (impl_DigitCounts m b _).mono ?_
      rintro e w1 ⟨u, rfl, hr, hbl⟩
      have HB := Lib.hid hbl
      clear hr hbl
      go_wp2_with fail
      refine (impl_DigitCounts n b _).mono ?_
      rintro e w2 ⟨u2, rfl, hr, hbl⟩
      have HB2 := Lib.hid (Below.step HB.out HB.out.size hbl)
      clear hr hbl
      go_wp2
      go_ret2
      exact ⟨by rw [HD.out, HR0.out]; rfl, HB2.out⟩
    · have hm' : okq m b = false := by simpa using hm
      clear hno hm
      go_enter Try.func14, Try.ntmps14
      go_wp2_with fail
      refine (impl_DigitCounts m b _).mono ?_
      rintro e w1 ⟨u, rfl, hr, hbl⟩
      have HB := Lib.hid hbl
      clear hr hbl
      go_wp2_with fail
      refine (impl_DigitCounts n b _).mono ?_
      rintro e w2 ⟨u2, rfl, hr, hbl⟩
      have HB2 := Lib.hid (Below.step HB.out HB.out.size hbl)
      clear hr hbl
      go_wp2
      go_ret2
      exact ⟨by rw [HD.out, HR0.out]; rfl, HB2.out⟩

theorem law_SameDigits (m n b : Int) (w : World) :
    Calls Try.prog 4 #[.int .i64 m, .int .i64 n, .int .i64 b] w fun e w' => e = .returned (.bool true) ∧ Below w.heap.size w w' := by
  go_enter Try.func4, Try.ntmps4
  go_wp2_with (first | (go_at_call 13; refine (spec_SameDigits _ _ _ _).mono ?_; rintro e w1 ⟨rfl, hbl⟩; have HB1 := Lib.hid hbl; clear hbl) | (go_at_call 14; refine (impl_SameDigits _ _ _ _).mono ?_; rintro e w2 ⟨rfl, hbl⟩; have HB2 := Lib.hid hbl; clear hbl))
  go_ret
  exact ⟨by simp, Below.step HB1.out HB1.out.size HB2.out⟩

end Go.Proofs.Ytecnalkjlilgmab
