/-
  Fractions, bases and primes that the laws of periods and cyclic numbers draw.
-/
import Derived.Test.Ytgiabadkbfbilab0B
import Derived.Test.Ytgiabadkbfbilab0J
import Derived.Test.Ytgiabadkbfbilab0G
namespace Go.Proofs.Ytgiabadkbfbilab
open Go.RowKit
set_option linter.unusedVariables false
set_option linter.unusedSimpArgs false
set_option maxRecDepth 100000

theorem results_tmp4 {fn : Func} {t u v x : Tmp} (h : fn.results = #[.tmp t, .tmp u, .tmp v, .tmp x]) (tmps : Array Value) (P : Program) (w : World) :
    (results fn tmps).run P w = .ok (.tuple #[tmps.getD t undef, tmps.getD u undef, tmps.getD v undef, tmps.getD x undef]) w := by
  simp [results, h, Sem.run_bind, Sem.run_pure, Result.andThen]

set_option maxHeartbeats 2000000 in
theorem draw_FullPrimes (v : Value) (xs : List Int) (w : World) (h : Sb w v xs) (hs : xs.length ≤ 1048576) :
    Calls Try.prog 17 #[v] w fun e w' => ∃ b m : Int, e = .returned (.tuple #[.int .i64 b, .int .i64 m]) ∧ Below w.heap.size w w' := by
  have HC := Lib.hid (Cu.start h hs)
  obtain ⟨a, cap, rfl⟩ := h.len
  have HB := Lib.hid (alloc_below w (.cells #[.slice a xs.length cap, .int .i64 0, .int .u64 0] 50))
  clear h
  go_enter Try.func17, Try.ntmps17
  go_wp2_with fail
  refine (one_any w.heap.size _ xs _ 10 _ HC.out (by omega) (by omega) (by omega)).mono ?_
  rintro e w1 ⟨t, rfl, hc, hg⟩
  have C1 := Lib.hid hc
  have G1 := Lib.hid hg
  clear hc hg
  cases t
  · go_wp2_with (first
      | (go_at_call 62; refine (base_any w.heap.size _ xs _ _ C1.out (by omega)).mono ?_; rintro e w2 ⟨b, rfl, hc, hg⟩; have C2 := Lib.hid hc; have G2 := Lib.hid (grown_trans G1.out hg); clear hc hg)
      | (go_at_call 61; refine (pick_any w.heap.size _ xs _ 120 _ C2.out (by omega) (by omega) (by omega)).mono ?_; rintro e w3 ⟨y, rfl, y0, y1, hc, hg⟩; have G3 := Lib.hid (grown_trans G2.out hg); clear hc hg))
    go_ret2
    exact ⟨_, _, rfl, (HB.out.trans (grown_below G3.out (by simp) (Nat.le_refl _)))⟩
  · go_wp2_with (first
      | (go_at_call 62; refine (base_any w.heap.size _ xs _ _ C1.out (by omega)).mono ?_; rintro e w2 ⟨b, rfl, hc, hg⟩; have C2 := Lib.hid hc; have G2 := Lib.hid (grown_trans G1.out hg); clear hc hg)
      | (go_at_call 60; refine (among_lit w.heap.size _ xs _ [-1, 300, 301] _ C2.out (by omega) (by simp) (by simp)).mono ?_; rintro e w3 ⟨y, rfl, hc, hg⟩; have G3 := Lib.hid (grown_trans G2.out hg); clear hc hg))
    go_ret2
    exact ⟨_, _, rfl, (HB.out.trans (grown_below G3.out (by simp) (Nat.le_refl _)))⟩

end Go.Proofs.Ytgiabadkbfbilab
