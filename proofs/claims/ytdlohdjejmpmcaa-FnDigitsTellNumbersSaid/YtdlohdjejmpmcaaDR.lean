/-
  DigitalRoot and SameDigits.
-/
import Derived.Test.YtdlohdjejmpmcaaD2
import Derived.Test.YtdlohdjejmpmcaaQ
import Derived.Test.YtdlohdjejmpmcaaE2
namespace Go.Proofs.Ytdlohdjejmpmcaa
open Go.RowKit
set_option linter.unusedVariables false
set_option linter.unusedSimpArgs false

def RDigitalRoot (b n : Int) : Int := dr b n
def LDigitCounts (b n : Int) : List Int := cnt b (dgs b n)

theorem digitalRoot_any (n b : Int) (w : World) (h0 : 0 ≤ n) (h1 : n ≤ 1000000000000) (hb : 2 ≤ b) (hb' : b ≤ 16) :
    Calls Try.prog 65 #[.int .i64 b, .int .i64 n] w fun e w' => e = .returned (.int .i64 (dr b n)) ∧ Below w.heap.size w w' := by
  go_enter Try.func65, Try.ntmps65
  go_wp2
  go_loopw [1] (fun c wr => ∃ m : Int, 0 ≤ m ∧ m ≤ 1000000000000 ∧ c = .int .i64 m ∧ dr b m = dr b n ∧ Below w.heap.size w wr) (fun c _ => (intOf c).toNat)
  case atStart => exact ⟨n, h0, h1, rfl, rfl, Below.refl _ _⟩
  case round =>
    obtain ⟨m, m0, m1, rfl, hd, hbl⟩ := hrel
    have HD := Lib.hid hd
    have HB := Lib.hid hbl
    clear hd hbl
    by_cases hm : b ≤ m
    · have hs := Lib.hid (dgs_sum b m hb m0)
      have hst := Lib.hid (dr_step b m hb hm)
      go_wp2_with fail
      refine (digitSum_any m b _ m0 m1 hb hb').mono ?_
      rintro e w1 ⟨rfl, hb1⟩
      have HB1 := Lib.hid (Below.step HB.out HB.out.size hb1)
      clear hb1
      go_wp2
      go_roundw
      case rel => exact ⟨_, hs.out.1, by have := hs.out.2.1; omega, rfl, by rw [← hst.out, HD.out], HB1.out⟩
      case measure =>
        have h2 := hs.out.2.2 hm
        have h3 := hs.out.1
        simp only [intOf]
        omega
    · have hst := Lib.hid (dr_end b m hm)
      go_wp2
      go_ret
      exact ⟨ret_int (by rw [← HD.out, hst.out]), HB.out⟩

theorem spec_DigitalRoot (n b : Int) (w : World) :
    Calls Try.prog 17 #[.int .i64 n, .int .i64 b] w fun e w' => e = .returned (optRes (askI RDigitalRoot n b)) ∧ Below w.heap.size w w' := by
  by_cases hq : Num n ∧ Bas b
  · have a1 : decide (Num n ∧ Bas b) = true := decide_eq_true hq
    have hR := Lib.hid (show askI RDigitalRoot n b = some (dr b n) from if_pos hq)
    obtain ⟨⟨h0, h1⟩, hb, hb'⟩ := hq
    go_enter Try.func17, Try.ntmps17
    go_wp2_with (go_at_call 56; refine (dgAsked_any _ _ _).mono ?_; rintro e w1 ⟨rfl, rfl⟩)
    go_loopw [0] (fun c wr => ∃ m : Int, 0 ≤ m ∧ m ≤ 1000000000000 ∧ c = .int .i64 m ∧ dr b m = dr b n ∧ Below w.heap.size w wr) (fun c _ => (intOf c).toNat)
    case atStart => exact ⟨n, h0, h1, rfl, rfl, Below.refl _ _⟩
    case round =>
      obtain ⟨m, m0, m1, rfl, hd, hbl⟩ := hrel
      have HD := Lib.hid hd
      have HB := Lib.hid hbl
      clear hd hbl
      by_cases hm : b ≤ m
      · have hs := Lib.hid (dgs_sum b m hb m0)
        have hst := Lib.hid (dr_step b m hb hm)
        have hall := Lib.hid (dgs_all b m hb m0)
        have hlen := Lib.hid (dgs_len40 b m hb m0 m1)
        go_wp2_with fail
        refine (dgOf_s m b _ m0 m1 hb hb').mono ?_
        rintro e w1 ⟨g, cap, rfl, hr, hb1⟩
        have HR := Lib.hid hr
        have HB1 := Lib.hid (Below.step HB.out HB.out.size hb1)
        clear hb1 hr
        go_wp2_with fail
        refine (dgSum_any _ _ _ _ HR.out (fun x hx => by have := hall.out x hx; omega) (by have := hlen.out; omega)).mono ?_
        rintro e w2 ⟨rfl, rfl⟩
        go_wp2
        go_roundw
        case rel => exact ⟨_, hs.out.1, by have := hs.out.2.1; omega, rfl, by rw [← hst.out, HD.out], HB1.out⟩
        case measure =>
          have h2 := hs.out.2.2 hm
          have h3 := hs.out.1
          simp only [intOf]
          omega
      · have hst := Lib.hid (dr_end b m hm)
        go_wp2
        go_ret2
        exact ⟨by rw [hR.out, ← HD.out, hst.out]; rfl, HB.out⟩
  · have a1 : decide (Num n ∧ Bas b) = false := decide_eq_false hq
    have hR := Lib.hid (show askI RDigitalRoot n b = none from if_neg hq)
    clear hq
    go_enter Try.func17, Try.ntmps17
    go_wp2_with (go_at_call 56; refine (dgAsked_any _ _ _).mono ?_; rintro e w1 ⟨rfl, rfl⟩)
    go_ret2
    exact ⟨by rw [hR.out]; rfl, Below.refl _ _⟩

end Go.Proofs.Ytdlohdjejmpmcaa
