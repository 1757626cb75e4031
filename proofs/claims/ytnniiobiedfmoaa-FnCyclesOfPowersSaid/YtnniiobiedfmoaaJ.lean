/-
  Sorted digits: the program's questions.
-/
import Derived.Test.YtnniiobiedfmoaaH2
import Derived.Test.YtnniiobiedfmoaaB
import Derived.Test.YtnniiobiedfmoaaQ
namespace Go.Proofs.Ytnniiobiedfmoaa
open Go.RowKit
set_option linter.unusedVariables false
set_option linter.unusedSimpArgs false

def RSortedUp (b n : Int) : Option Int := numF b (srt (dgs b n)) 0
def RSortedDown (b n : Int) : Option Int := numF b (srt (dgs b n)).reverse 0
def LDigitCounts (b n : Int) : List Int := cnt b (dgs b n)

theorem srt_all {b n : Int} (h : ∀ x ∈ dgs b n, 0 ≤ x ∧ x ≤ b - 1) : ∀ x ∈ srt (dgs b n), 0 ≤ x ∧ x ≤ b - 1 := fun x hx => h x (srt_mem.1 hx)
theorem srtr_all {b n : Int} (h : ∀ x ∈ dgs b n, 0 ≤ x ∧ x ≤ b - 1) : ∀ x ∈ (srt (dgs b n)).reverse, 0 ≤ x ∧ x ≤ b - 1 := fun x hx => h x (srt_mem.1 (List.mem_reverse.1 hx))

theorem sortedUp_any (n b : Int) (w : World) (h0 : 0 ≤ n) (h1 : n ≤ 1000000000000) (hb : 2 ≤ b) (hb' : b ≤ 16) :
    Calls Try.prog 54 #[.int .i64 b, .int .i64 n] w fun e w' => e = .returned (optRes (RSortedUp b n)) ∧ Below w.heap.size w w' := by
  have hall := Lib.hid (srt_all (dgs_all b n hb h0))
  have hlen := Lib.hid (dgs_len40 b n hb h0 h1)
  have hls := Lib.hid (srt_len (dgs b n))
  go_enter Try.func54, Try.ntmps54
  go_wp2_with fail
  refine (digits_any _ _ _ h0 (by omega) hb hb').mono ?_
  rintro e w1 ⟨g, cap, rfl, hr, hbl⟩
  have HB := Lib.hid hbl
  have HR := Lib.hid hr
  have hg := hr.at.2.1
  clear hbl hr
  go_wp2_with fail
  refine (sort_any _ _ _ _ _ _ HR.out (by have := hlen.out; omega)).mono ?_
  rintro e w2 ⟨rfl, hr, hgr⟩
  have HR2 := Lib.hid hr
  have HB2 := Lib.hid (HB.out.trans (grown_below hgr HB.out.size hg))
  clear hr hgr
  go_wp2_with fail
  refine (number_any _ _ _ _ _ HR2.out (fun x hx => by have := hall.out x hx; omega) hb hb' (by rw [hls.out]; have := hlen.out; omega)).mono ?_
  rintro e w3 ⟨rfl, rfl⟩
  go_wp2
  go_ret2
  exact ⟨rfl, HB2.out⟩

end Go.Proofs.Ytnniiobiedfmoaa
