/-
  Slices behind the first digits of a row; lists held against each other; the program's difference.
-/
import Derived.Test.YteadgaecjoenlaaTI
import Derived.Test.YteadgaecjoenlaaTK
namespace Go.Proofs.Yteadgaecjoenlaa
open Go.RowKit
set_option linter.unusedVariables false
set_option linter.unusedSimpArgs false
set_option maxRecDepth 100000

/-- A slice of a row of the call's own from some place on to its end. -/
def Ro (w : World) (B : Nat) (v : Value) (xs : List Int) : Prop := ∃ (g n k : Nat) (ys : List Int), v = .slice (some ⟨g, k, none⟩) xs.length (n - k) ∧ k < n ∧ Rd w B (.slice (some ⟨g, 0, none⟩) n n) ys ∧ xs = ys.drop k

theorem Ro.of {w : World} {B g n k : Nat} {ys : List Int} (h : Rd w B (.slice (some ⟨g, 0, none⟩) n n) ys) (hk : k < n) : Ro w B (.slice (some ⟨g, k, none⟩) (n - k) (n - k)) (ys.drop k) := by
  have hn := h.at.1
  exact ⟨g, n, k, ys, by rw [List.length_drop, hn], hk, h, rfl⟩
theorem Ro.mono {w : World} {B C : Nat} {v : Value} {xs : List Int} (h : Ro w B v xs) (hC : C ≤ B) : Ro w C v xs := by
  obtain ⟨g, n, k, ys, h1, h2, h3, h4⟩ := h
  exact ⟨g, n, k, ys, h1, h2, h3.mono hC, h4⟩
theorem Ro.keep {w w' : World} {B : Nat} {v : Value} {xs : List Int} (h : Ro w B v xs) (hb : Below w.heap.size w w') : Ro w' B v xs := by
  obtain ⟨g, n, k, ys, h1, h2, h3, h4⟩ := h
  exact ⟨g, n, k, ys, h1, h2, h3.keep hb, h4⟩
theorem Ro.own {w : World} {B : Nat} {v : Value} {xs : List Int} (h : Ro w B v xs) : ∃ g n ys, v.ownBlock = some g ∧ Rd w B (.slice (some ⟨g, 0, none⟩) n n) ys := by
  obtain ⟨g, n, k, ys, h1, h2, h3, h4⟩ := h
  exact ⟨g, n, ys, by rw [h1]; rfl, h3⟩
theorem Ro.lt {w : World} {B : Nat} {v : Value} {xs : List Int} (h : Ro w B v xs) : ∀ k, v.ownBlock = some k → B ≤ k ∧ k < w.heap.size := by
  obtain ⟨g, n, ys, h1, h3⟩ := h.own
  intro k hk
  rw [h1] at hk
  simp only [Option.some.injEq] at hk
  subst hk
  exact h3.lt g rfl
theorem Ro.grown {w w' : World} {B : Nat} {v : Value} {xs : List Int} {row : Option Nat} (h : Ro w B v xs) (hg : w.grownBy w' row) (hne : v.ownBlock = none ∨ v.ownBlock ≠ row) : Ro w' B v xs := by
  obtain ⟨g, n, k, ys, h1, h2, h3, h4⟩ := h
  rw [h1] at hne
  exact ⟨g, n, k, ys, h1, h2, h3.grown hg hne, h4⟩
theorem Ro.sl {w : World} {B : Nat} {v : Value} {xs : List Int} (h : Ro w B v xs) : Sl w v xs := by
  obtain ⟨g, n, k, ys, h1, h2, h3, h4⟩ := h
  refine ⟨_, _, h1, .inr ⟨g, k, rfl, h3.at.2.2.1, fun j hj => ?_⟩⟩
  subst h4
  have hj' : k + j < ys.length := by rw [List.length_drop] at hj; omega
  rw [h3.at.2.2.2.2.1 (k + j) hj', List.getElem_drop]
theorem Ro.apart {w : World} {B : Nat} {u v : Value} {xs : List Int} (hu : ∀ k, u.ownBlock = some k → k < B) (hv : Ro w B v xs) : u.ownBlock = none ∨ u.ownBlock ≠ v.ownBlock := by
  cases h : u.ownBlock with
  | none => exact .inl rfl
  | some k =>
    right
    intro hc
    have h1 := hu k h
    have h2 := hv.lt k hc.symm
    omega

theorem drop_set' (ys : List Int) (k j : Nat) (q : Int) : (ys.set (k + j) q).drop k = (ys.drop k).set j q := by
  apply List.ext_getElem?
  intro t
  rw [List.getElem?_drop, List.getElem?_set, List.getElem?_set, List.getElem?_drop]
  by_cases h : j = t
  · subst h; rw [if_pos rfl, if_pos rfl, List.length_drop]; by_cases h2 : k + j < ys.length
    · rw [if_pos h2, if_pos (by omega)]
    · rw [if_neg h2, if_neg (by omega)]
  · rw [if_neg h, if_neg (by omega)]

theorem markIntS_o (v : Value) (xs : List Int) (k : Int) (B : Nat) (w : World) (h : Ro w B v xs) (hB : B ≤ w.heap.size) (hk : 0 ≤ k) (hk2 : k ≤ 1000000000) (hl : xs.length ≤ 2000000) :
    Calls Try.prog 19 #[v, .int .i64 k] w fun e w' => e = .returned (.int .i64 (k + xs.length)) ∧ Ro w' B v (seqF k xs.length) ∧ w.grownBy w' v.ownBlock := by
  obtain ⟨g, n, o, ys, rfl, h2, h3, h4⟩ := h
  have H := Lib.hid h3
  have HX := Lib.hid h4
  have hyl := h3.at.1
  have hxl : xs.length = n - o := by rw [h4, List.length_drop]; omega
  have HXL := Lib.hid hxl
  have HYL := Lib.hid hyl
  clear h3 h4 hxl hyl
  go_enter Try.func19, Try.ntmps19
  go_wp2
  go_loopw [1, 5] (fun m i wr => ∃ (j : Nat) (zs : List Int), j ≤ xs.length ∧ i = .int .i64 j ∧ m = .int .i64 (k + j) ∧ Mk k xs (zs.drop o) j ∧ Rd wr B (.slice (some ⟨g, 0, none⟩) n n) zs ∧ w.grownBy wr (some g)) (fun _ i _ => xs.length - (intOf i).toNat)
  case atStart => exact ⟨0, ys, Nat.zero_le _, rfl, by simp, ⟨by rw [HX.out], fun t ht => by omega⟩, H.out, World.grownBy.refl _ _⟩
  case round =>
    obtain ⟨j, zs, hj, rfl, rfl, hm, hr, hgr⟩ := hrel
    have HM := Lib.hid hm
    have HR := Lib.hid hr
    have HG := Lib.hid hgr
    clear hm hr hgr
    by_cases hlt : j < xs.length
    · obtain ⟨q, hd⟩ : ∃ q, wr.cell? ⟨g, o + j, none⟩ = some (.int .i64 q) := ⟨_, HR.out.at.2.2.2.2.1 (o + j) (by have := HR.out.at.1; have := HXL.out; omega)⟩
      have hf := HR.out.at.2.2.2.2.2 (o + j)
      go_wp2
      go_roundw
      case rel =>
        have h1 := HR.out.set (o + j) (k + j)
        refine ⟨j + 1, _, by omega, by go_num, by go_num, ?_, h1.1, grown_trans HG.out h1.2⟩
        rw [drop_set']
        exact HM.out.step hlt
      case measure => simp [intOf]; omega
    · obtain rfl : j = xs.length := by omega
      go_wp2
      go_ret
      refine ⟨rfl, ⟨g, n, o, zs, by rw [seqF_len], h2, HR.out, by rw [HM.out.done]⟩, HG.out⟩

theorem heldIntS_o (v : Value) (n : Nat) (k : Int) (B : Nat) (w : World) (h : Ro w B v (seqF k n)) (hk : 0 ≤ k) (hk2 : k ≤ 1000000000) (hl : n ≤ 2000000) :
    Calls Try.prog 20 #[v, .int .i64 k] w fun e w' => e = .returned (.int .i64 (k + n)) ∧ w = w' := by
  have hs := h.sl
  obtain ⟨a, cap, rfl, hx⟩ := hs
  have HX := Lib.hid hx
  have HL := Lib.hid (seqF_len k n)
  clear hx h
  rw [HL.out]
  go_enter Try.func20, Try.ntmps20
  go_wp2
  go_loop [1, 5] (fun m i => ∃ j : Nat, j ≤ n ∧ i = .int .i64 j ∧ m = .int .i64 (k + j)) (fun _ i => n - (intOf i).toNat)
  case atStart => exact ⟨0, Nat.zero_le _, rfl, by simp⟩
  case round =>
    obtain ⟨j, hj, rfl, rfl⟩ := hrel
    by_cases hlt : j < n
    · rcases HX.out with hx | ⟨b, off, rfl, hbl, hc⟩
      · have := congrArg List.length hx; rw [HL.out] at this; simp at this; omega
      have hcell : w.cell? ⟨b, off + j, none⟩ = some (.int .i64 (k + j)) := by rw [hc j (by rw [HL.out]; exact hlt), seqF_at]
      clear hc
      go_wp2
      go_round
      case rel => exact ⟨j + 1, by omega, by go_num, by go_num⟩
      case measure => simp [intOf]; omega
    · obtain rfl : j = n := by omega
      go_wp2
      go_ret
      exact ⟨rfl, rfl⟩

end Go.Proofs.Yteadgaecjoenlaa
