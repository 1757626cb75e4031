/-
  Fractions, bases and primes that the laws of periods and cyclic numbers draw.
-/
import Derived.Test.Ytgiabadkbfbilaa0B
import Derived.Test.Ytgiabadkbfbilaa0J
import Derived.Test.Ytgiabadkbfbilaa0G
namespace Go.Proofs.Ytgiabadkbfbilaa
open Go.RowKit
set_option linter.unusedVariables false
set_option linter.unusedSimpArgs false
set_option maxRecDepth 100000

theorem results_tmp4 {fn : Func} {t u v x : Tmp} (h : fn.results = #[.tmp t, .tmp u, .tmp v, .tmp x]) (tmps : Array Value) (P : Program) (w : World) :
    (results fn tmps).run P w = .ok (.tuple #[tmps.getD t undef, tmps.getD u undef, tmps.getD v undef, tmps.getD x undef]) w := by
  simp [results, h, Sem.run_bind, Sem.run_pure, Result.andThen]

theorem fraction_any (g : Nat) (v : Value) (xs : List Int) (K : Nat) (w : World) (h : Cu w g v xs K) (hK : K ≤ 500) :
    Calls Try.prog 114 #[.pointer (some ⟨g, 0, none⟩)] w fun e w' => ∃ a n b : Int, e = .returned (.tuple #[.int .i64 a, .int .i64 n, .int .i64 b]) ∧ Cu w' g v xs (K + 20) ∧ w.grownBy w' (some g) := by
  have HP := Lib.hid (fun w' K' n (h : Cu w' g v xs K') (hK' : K' ≤ 5000) (h0 : 0 ≤ n) (h1 : n ≤ 200) => pick_any g v xs K' n w' h (by omega) h0 (by omega))
  have HBs := Lib.hid (fun w' K' (h : Cu w' g v xs K') (hK' : K' ≤ 1000) => base_any g v xs K' w' h hK')
  have H := Lib.hid h
  clear h
  go_enter Try.func114, Try.ntmps114
  go_wp2_with fail
  refine (HP.out _ _ 200 H.out (by omega) (by omega) (by omega)).mono ?_
  rintro e w1 ⟨n, rfl, n0, n1, hc, hg⟩
  have C1 := Lib.hid hc
  have G1 := Lib.hid hg
  clear hc hg
  have hwn : IntKind.i64.wrap (1 + n) = 1 + n := by rw [IntWalk.i64_in _ (by omega)]
  go_wp2_with fail
  refine (HP.out _ _ (1 + n) C1.out (by omega) (by omega) (by omega)).mono ?_
  rintro e w2 ⟨a, rfl, a0, a1, hc, hg⟩
  have C2 := Lib.hid hc
  have G2 := Lib.hid (grown_trans G1.out hg)
  clear hc hg
  go_wp2_with fail
  refine (HP.out _ _ 14 C2.out (by omega) (by omega) (by omega)).mono ?_
  rintro e w3 ⟨z, rfl, z0, z1, hc, hg⟩
  have C3 := Lib.hid hc
  have G3 := Lib.hid (grown_trans G2.out hg)
  clear hc hg
  by_cases c0 : z = 0
  · subst c0
    clear z0 z1
    go_wp2_with (first
      | (go_at_call 76; refine (among_lit g _ xs _ [-1, 0, 2000, 2001] _ C3.out (by omega) (by simp) (by simp)).mono ?_; rintro e w4 ⟨y, rfl, hc, hg⟩; have C4 := Lib.hid hc; have G4 := Lib.hid (grown_trans G3.out hg); clear hc hg)
      | (go_at_call 89; refine (HBs.out _ _ C4.out (by omega)).mono ?_; rintro e w5 ⟨b, rfl, hc, hg⟩; have C5 := Lib.hid hc; have G5 := Lib.hid (grown_trans G4.out hg); clear hc hg))
    first | go_ret3 | go_ret2 | go_ret
    exact ⟨_, _, _, rfl, C5.out.mono (by omega), G5.out⟩
  by_cases c1 : z = 1
  · subst c1
    clear z0 z1
    go_wp2_with (first
      | (go_at_call 76; refine (among_lit g _ xs _ [-1, 1 + n, 4611686018427387904] _ C3.out (by omega) (by simp) (by simp)).mono ?_; rintro e w4 ⟨y, rfl, hc, hg⟩; have C4 := Lib.hid hc; have G4 := Lib.hid (grown_trans G3.out hg); clear hc hg)
      | (go_at_call 89; refine (HBs.out _ _ C4.out (by omega)).mono ?_; rintro e w5 ⟨b, rfl, hc, hg⟩; have C5 := Lib.hid hc; have G5 := Lib.hid (grown_trans G4.out hg); clear hc hg))
    first | go_ret3 | go_ret2 | go_ret
    exact ⟨_, _, _, rfl, C5.out.mono (by omega), G5.out⟩
  · go_wp2_with (go_at_call 89; refine (HBs.out _ _ C3.out (by omega)).mono ?_; rintro e w5 ⟨b, rfl, hc, hg⟩; have C5 := Lib.hid hc; have G5 := Lib.hid (grown_trans G3.out hg); clear hc hg)
    first | go_ret3 | go_ret2 | go_ret
    exact ⟨_, _, _, rfl, C5.out.mono (by omega), G5.out⟩

set_option maxHeartbeats 2000000 in
theorem draw_PeriodOf (v : Value) (xs : List Int) (w : World) (h : Sb w v xs) (hs : xs.length ≤ 1048576) :
    Calls Try.prog 47 #[v] w fun e w' => ∃ p q b : Int, e = .returned (.tuple #[.int .i64 p, .int .i64 q, .int .i64 b]) ∧ Below w.heap.size w w' := by
  have HC := Lib.hid (Cu.start h hs)
  obtain ⟨a, cap, rfl⟩ := h.len
  have HB := Lib.hid (alloc_below w (.cells #[.slice a xs.length cap, .int .i64 0, .int .u64 0] 59))
  clear h
  go_enter Try.func47, Try.ntmps47
  go_wp2_with (go_at_call 114; refine (fraction_any w.heap.size _ xs 0 _ HC.out (by omega)).mono ?_; rintro e w1 ⟨p, q, b, rfl, hc, hg⟩; have C1 := Lib.hid hc; have G1 := Lib.hid hg; clear hc hg)
  first | go_ret3 | go_ret2 | go_ret
  exact ⟨_, _, _, rfl, (HB.out.trans (grown_below G1.out (by simp) (Nat.le_refl _)))⟩

set_option maxHeartbeats 2000000 in
theorem draw_OrderOf (v : Value) (xs : List Int) (w : World) (h : Sb w v xs) (hs : xs.length ≤ 1048576) :
    Calls Try.prog 55 #[v] w fun e w' => ∃ q b : Int, e = .returned (.tuple #[.int .i64 q, .int .i64 b]) ∧ Below w.heap.size w w' := by
  have HC := Lib.hid (Cu.start h hs)
  obtain ⟨a, cap, rfl⟩ := h.len
  have HB := Lib.hid (alloc_below w (.cells #[.slice a xs.length cap, .int .i64 0, .int .u64 0] 59))
  clear h
  go_enter Try.func55, Try.ntmps55
  go_wp2_with (go_at_call 114; refine (fraction_any w.heap.size _ xs 0 _ HC.out (by omega)).mono ?_; rintro e w1 ⟨p, q, b, rfl, hc, hg⟩; have C1 := Lib.hid hc; have G1 := Lib.hid hg; clear hc hg)
  go_ret2
  exact ⟨_, _, rfl, (HB.out.trans (grown_below G1.out (by simp) (Nat.le_refl _)))⟩

set_option maxHeartbeats 2000000 in
theorem draw_FractionDigits (v : Value) (xs : List Int) (w : World) (h : Sb w v xs) (hs : xs.length ≤ 1048576) :
    Calls Try.prog 57 #[v] w fun e w' => ∃ p q b k : Int, e = .returned (.tuple #[.int .i64 p, .int .i64 q, .int .i64 b, .int .i64 k]) ∧ Below w.heap.size w w' := by
  have HC := Lib.hid (Cu.start h hs)
  obtain ⟨a, cap, rfl⟩ := h.len
  have HB := Lib.hid (alloc_below w (.cells #[.slice a xs.length cap, .int .i64 0, .int .u64 0] 59))
  clear h
  go_enter Try.func57, Try.ntmps57
  go_wp2_with fail
  refine (fraction_any w.heap.size _ xs 0 _ HC.out (by omega)).mono ?_
  rintro e w1 ⟨p, q, b, rfl, hc, hg⟩
  have C1 := Lib.hid hc
  have G1 := Lib.hid hg
  clear hc hg
  go_wp2_with fail
  refine (one_any w.heap.size _ xs _ 10 _ C1.out (by omega) (by omega) (by omega)).mono ?_
  rintro e w2 ⟨t, rfl, hc, hg⟩
  have C2 := Lib.hid hc
  have G2 := Lib.hid (grown_trans G1.out hg)
  clear hc hg
  cases t
  · go_wp2_with (go_at_call 77; refine (pick_any w.heap.size _ xs _ 30 _ C2.out (by omega) (by omega) (by omega)).mono ?_; rintro e w3 ⟨y, rfl, y0, y1, hc, hg⟩; have G3 := Lib.hid (grown_trans G2.out hg); clear hc hg)
    refine bodyPost_ret (results_tmp4 rfl _ _ _) rfl ?_
    exact ⟨_, _, _, _, rfl, (HB.out.trans (grown_below G3.out (by simp) (Nat.le_refl _)))⟩
  · go_wp2_with (go_at_call 76; refine (among_lit w.heap.size _ xs _ [-1, 0, 200, 201] _ C2.out (by omega) (by simp) (by simp)).mono ?_; rintro e w3 ⟨y, rfl, hc, hg⟩; have G3 := Lib.hid (grown_trans G2.out hg); clear hc hg)
    refine bodyPost_ret (results_tmp4 rfl _ _ _) rfl ?_
    exact ⟨_, _, _, _, rfl, (HB.out.trans (grown_below G3.out (by simp) (Nat.le_refl _)))⟩

end Go.Proofs.Ytgiabadkbfbilaa
