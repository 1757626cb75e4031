/-
  slices.Chunk of a list in pairs: the iterator.
-/
import Derived.RangeFuncNested
import Derived.RangeFuncBound
import Derived.RangeFuncCalls
import Derived.RangeFuncLeaves
import Derived.RangeFuncBox
import Derived.Shelf.Abstract
import Derived.Shelf.RegionOpen
import Derived.WalkKit
import Derived.OwnWalkIn
import Derived.TacticsInMore
import Derived.LoopNIn
import Derived.LoopIn
import Derived.Test.Ytmdjmbmkgboeaaa92
namespace Go.Proofs.Ytmdjmbmkgboeaaa
open Go.RowKit Go.Shelf
set_option linter.unusedVariables false
set_option linter.unusedSimpArgs false
set_option maxRecDepth 100000

/-- The two cells that the iterator reads: the list, the pairs' length. -/
def C2 (B : Nat) (sv : Value) (W : World) : Prop := W.cell? ⟨B, 0, none⟩ = some sv ∧ W.cell? ⟨B + 1, 0, none⟩ = some (.int .i64 2)
def Kc (n₀ B : Nat) (sv : Value) (W W' : World) : Prop := Below n₀ W W' ∧ (C2 B sv W → C2 B sv W')

theorem fin_next {M k : Nat} (h : k < M) : (List.finRange M).take (k + 1) = (List.finRange M).take k ++ [⟨k, h⟩] := by
  rw [List.take_add_one, List.getElem?_eq_getElem (by simpa using h)]
  simp

set_option maxHeartbeats 2000000 in
theorem chunk1_in (n l B n₀ b off cap M : Nat) (hn : 1 ≤ n) (hM : M ≤ 200) (hcap : M + M ≤ cap) (hc2 : cap ≤ 9223372036854775807) (J Jx : List (Fin M) → World → Prop)
    (hY : ∀ (pre : List (Fin M)) (x : Fin M) W, J pre W → pre.length < M → YieldAt Fence.wide (n - 1) Try.prog l #[.slice (some ⟨b, off + (x.1 + x.1), none⟩) 2 2] W fun e W' =>
      (e = .returned (.bool true) ∧ J (pre ++ [x]) W' ∧ Kc n₀ B (.slice (some ⟨b, off, none⟩) (M + M) cap) W W') ∨ (e = .returned (.bool false) ∧ Jx (pre ++ [x]) W'))
    (W : World) (hC : C2 B (.slice (some ⟨b, off, none⟩) (M + M) cap) W) (hdr : ∀ p W', J p W' → J p W'.drew) (h0 : J [] W) :
    CallsIn Fence.wide n Try.prog 96 #[.func (.yield l) #[] #[], .pointer (some ⟨B, 0, none⟩), .pointer (some ⟨B + 1, 0, none⟩)] W fun e W' => (∃ v, e = .returned v) ∧
      ((∃ ys, ys = List.finRange M ∧ J ys W') ∨ (∃ pre, (∃ k, k ≤ M ∧ pre = (List.finRange M).take k) ∧ Jx pre W')) := by
  refine callsIn_of_wp Try.func96 rfl trivial ?_ rfl
  simp only [Try.ntmps96, List.size_toArray, List.length_cons, List.length_nil, Nat.reduceAdd, Nat.reduceSub, Array.replicate_succ, Array.replicate_zero, List.push_toArray, List.append_toArray, List.nil_append, List.cons_append]
  obtain ⟨N, hN⟩ : ∃ N, N = M + M := ⟨_, rfl⟩
  have HN := Lib.hid hN
  have HY := Lib.hid hY
  rw [← hN] at HY hC hcap
  clear hY hN
  gi_wp2
  gi_loopw [4] (fun i wr => ∃ k i2 : Nat, k ≤ M ∧ Hid (i2 = k + k) ∧ i = .int .i64 (i2 : Int) ∧ J ((List.finRange M).take k) wr ∧ Hid (C2 B (.slice (some ⟨b, off, none⟩) N cap) wr))
    (fun i _ => N - (intOf i).toNat)
  case atStart => exact ⟨0, 0, Nat.zero_le _, Lib.hid rfl, rfl, h0, Lib.hid hC⟩
  case round =>
    obtain ⟨k, i2, hk, HI2, rfl, hJs, HC⟩ := hrel
    have hs0 := HC.out.1
    have hn0 := HC.out.2
    by_cases hlt : k < M
    · have hltN : (i2 : Int) < (N : Int) := by have := HI2.out; have := HN.out; omega
      have hi2N : i2 + 2 ≤ N := by have := HI2.out; have := HN.out; omega
      have hmin : ¬ ((N - i2 : Nat) : Int) < 2 := by omega
      have hmin2 : min (2 : Int) ((N - i2 : Nat) : Int) = 2 := by omega
      obtain ⟨q, hq⟩ : ∃ q, i2 + 2 = q := ⟨_, rfl⟩
      have HQ := Lib.hid hq
      have hw1 : IntKind.i64.wrap ((i2 : Int) + 2) = (q : Int) := by rw [IntWalk.i64_in _ (by omega)]; omega
      have hq1 : i2 ≤ q := by omega
      have hq2 : q ≤ N := by omega
      have hq3 : q ≤ cap := by omega
      have hq4 : q - i2 = 2 := by omega
      obtain ⟨fn, tmps, assign, body, hy, hR⟩ := HY.out _ ⟨k, hlt⟩ wr.drew (hdr _ _ hJs) (by rw [List.length_take, List.length_finRange]; omega)
      dsimp only at hy
      rw [← HI2.out] at hy
      have HR := Lib.hid hR
      clear hq hi2N hR
      gi_wp2
      gi_region
      gi_wp2
      refine HR.out.mono ?_
      rintro e W3 (⟨rfl, hJ3, hk3⟩ | ⟨rfl, hJx3⟩)
      · have HC3 := Lib.hid (hk3.2 HC.out)
        have HJ3 := Lib.hid hJ3
        have hn3 := HC3.out.2
        clear hs0 hn0 hk3 hJ3
        gi_wp2
        go_roundw
        case rel => exact ⟨k + 1, q, hlt, Lib.hid (by have := HI2.out; have := HQ.out; omega), by go_num, by rw [fin_next hlt]; exact HJ3.out, HC3⟩
        case measure => simp [intOf]; omega
      · have HJx3 := Lib.hid hJx3
        gi_wp2
        refine bodyPost_ret (results_none rfl _ _ _) rfl ?_
        exact ⟨⟨_, rfl⟩, .inr ⟨_, ⟨k + 1, hlt, rfl⟩, by rw [fin_next hlt]; exact HJx3.out⟩⟩
    · obtain rfl : k = M := by omega
      have hltN : ¬ (i2 : Int) < (N : Int) := by have := HI2.out; have := HN.out; omega
      gi_wp2
      go_end0
      exact ⟨⟨_, rfl⟩, .inl (by have h5 := hJs; rw [List.take_of_length_le (by simp)] at h5; exact h5)⟩

end Go.Proofs.Ytmdjmbmkgboeaaa
