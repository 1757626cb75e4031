/-
  Marks that the laws lay into a result, and look for again.
-/
import Derived.Test.YtpfifeceeebhlaaE
namespace Go.Proofs.Ytpfifeceeebhlaa
open Go.RowKit
set_option linter.unusedVariables false
set_option linter.unusedSimpArgs false

def seqF (k : Int) (n : Nat) : List Int := (List.range n).map fun (i : Nat) => k + (i : Int)

theorem seqF_len (k : Int) (n : Nat) : (seqF k n).length = n := by simp [seqF]
theorem seqF_at (k : Int) (n j : Nat) (h : j < (seqF k n).length) : (seqF k n)[j] = k + j := by simp [seqF]

/-- The first j cells bear marks. -/
def Mk (k : Int) (xs ys : List Int) (j : Nat) : Prop := ys.length = xs.length ∧ ∀ t, t < j → ys[t]? = some (k + (t : Int))

theorem Mk.step {k : Int} {xs ys : List Int} {j : Nat} (h : Mk k xs ys j) (hj : j < xs.length) : Mk k xs (ys.set j (k + (j : Int))) (j + 1) := by
  refine ⟨by simp [h.1], fun t ht => ?_⟩
  rw [List.getElem?_set]
  by_cases e : j = t
  · subst e
    rw [if_pos rfl, if_pos (by rw [h.1]; omega)]
  · rw [if_neg e]
    exact h.2 t (by omega)

theorem Mk.done {k : Int} {xs ys : List Int} (h : Mk k xs ys xs.length) : ys = seqF k xs.length := by
  apply List.ext_getElem?
  intro t
  by_cases ht : t < xs.length
  · rw [h.2 t ht]
    simp [seqF, ht]
  · rw [List.getElem?_eq_none (by rw [h.1]; omega), List.getElem?_eq_none (by rw [seqF_len]; omega)]

theorem markIntS_any (v : Value) (xs : List Int) (k : Int) (B : Nat) (w : World) (h : Rd w B v xs) (hB : B ≤ w.heap.size) (hk : 0 ≤ k) (hk2 : k ≤ 1000000000) (hl : xs.length ≤ 2000000) :
    Calls Try.prog 22 #[v, .int .i64 k] w fun e w' => e = .returned (.int .i64 (k + xs.length)) ∧ Rd w' B v (seqF k xs.length) ∧ w.grownBy w' v.ownBlock := by
  rcases h.cases with ⟨rfl, rfl⟩ | ⟨g, cap, rfl, hg, _, _, _, _, _⟩
  · go_enter Try.func22, Try.ntmps22
    go_wp2
    refine wp_loop_rounds 1 ?_
    rw [rounds_succ]
    go_wp2
    go_ret
    exact ⟨ret_int (by simp), Rd.nil _ _, World.grownBy.refl _ _⟩
  · have H := Lib.hid h
    clear h
    go_enter Try.func22, Try.ntmps22
    go_wp2
    go_loopw [1, 5] (fun m i wr => ∃ (j : Nat) (ys : List Int), j ≤ xs.length ∧ i = .int .i64 j ∧ m = .int .i64 (k + j) ∧ Mk k xs ys j ∧ Rd wr B (.slice (some ⟨g, 0, none⟩) xs.length cap) ys ∧ w.grownBy wr (some g)) (fun _ i _ => xs.length - (intOf i).toNat)
    case atStart => exact ⟨0, xs, Nat.zero_le _, rfl, by simp, ⟨rfl, fun t ht => by omega⟩, H.out, World.grownBy.refl _ _⟩
    case round =>
      obtain ⟨j, ys, hj, rfl, rfl, hm, hr, hgr⟩ := hrel
      have HM := Lib.hid hm
      have HR := Lib.hid hr
      have HG := Lib.hid hgr
      clear hm hr hgr
      by_cases hlt : j < xs.length
      · obtain ⟨q, hd⟩ : ∃ q, wr.cell? ⟨g, j, none⟩ = some (.int .i64 q) := ⟨_, HR.out.at.2.2.2.2.1 j (by have := HM.out.1; omega)⟩
        have hf := HR.out.at.2.2.2.2.2 j
        go_wp2
        go_roundw
        case rel =>
          have h1 := HR.out.set j (k + j)
          exact ⟨j + 1, _, by omega, by go_num, by go_num, HM.out.step hlt, h1.1, grown_trans HG.out h1.2⟩
        case measure => simp [intOf]; omega
      · obtain rfl : j = xs.length := by omega
        go_wp2
        go_ret
        exact ⟨rfl, by rw [← HM.out.done]; exact HR.out, HG.out⟩

theorem heldIntS_any (v : Value) (n : Nat) (k : Int) (B : Nat) (w : World) (h : Rd w B v (seqF k n)) (hk : 0 ≤ k) (hk2 : k ≤ 1000000000) (hl : n ≤ 2000000) :
    Calls Try.prog 23 #[v, .int .i64 k] w fun e w' => e = .returned (.int .i64 (k + n)) ∧ w = w' := by
  rcases h.cases with ⟨rfl, hx⟩ | ⟨g, cap, rfl, hg, _, _, _, hc, _⟩
  · have hn : n = 0 := by have := congrArg List.length hx; rw [seqF_len] at this; simpa using this
    subst hn
    go_enter Try.func23, Try.ntmps23
    go_wp2
    refine wp_loop_rounds 1 ?_
    rw [rounds_succ]
    go_wp2
    go_ret
    exact ⟨ret_int (by simp), rfl⟩
  · have HC := Lib.hid hc
    have HL := Lib.hid (seqF_len k n)
    clear hc h
    rw [HL.out]
    go_enter Try.func23, Try.ntmps23
    go_wp2
    go_loop [1, 5] (fun m i => ∃ j : Nat, j ≤ n ∧ i = .int .i64 j ∧ m = .int .i64 (k + j)) (fun _ i => n - (intOf i).toNat)
    case atStart => exact ⟨0, Nat.zero_le _, rfl, by simp⟩
    case round =>
      obtain ⟨j, hj, rfl, rfl⟩ := hrel
      by_cases hlt : j < n
      · have hcell : w.cell? ⟨g, j, none⟩ = some (.int .i64 (k + j)) := by rw [HC.out j (by rw [HL.out]; exact hlt), seqF_at]
        go_wp2
        go_round
        case rel => exact ⟨j + 1, by omega, by go_num, by go_num⟩
        case measure => simp [intOf]; omega
      · obtain rfl : j = n := by omega
        go_wp2
        go_ret
        exact ⟨rfl, rfl⟩

theorem Rd.apart {w : World} {B : Nat} {u v : Value} {xs : List Int} (hu : ∀ k, u.ownBlock = some k → k < B) (hv : Rd w B v xs) : u.ownBlock = none ∨ u.ownBlock ≠ v.ownBlock := by
  cases h : u.ownBlock with
  | none => exact .inl rfl
  | some k =>
    right
    intro hc
    have h1 := hu k h
    have h2 := hv.lt k hc.symm
    omega

end Go.Proofs.Ytpfifeceeebhlaa
