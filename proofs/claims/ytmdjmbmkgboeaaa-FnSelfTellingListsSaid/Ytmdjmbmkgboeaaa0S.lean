/-
  Numbers that the laws of pairs, perfect numbers and sources draw; slices of slices held against each other.
-/
import Derived.Test.Ytmdjmbmkgboeaaa0C
import Derived.Test.Ytmdjmbmkgboeaaa0D
import Derived.Test.Ytmdjmbmkgboeaaa8L
namespace Go.Proofs.Ytmdjmbmkgboeaaa
open Go.RowKit
set_option linter.unusedVariables false
set_option linter.unusedSimpArgs false
set_option maxRecDepth 100000

theorem qSameRows_any (v u : Value) (vs us : List Value) (Z : Nat → List Int) (B C : Nat) (w : World) (h : LLf w B v vs Z) (h2 : LLf w C u us Z) (hn : vs.length = us.length) (hm : vs.length ≤ 40000) (hz : ∀ i, (Z i).length ≤ 2000000) :
    Calls Try.prog 20 #[v, u] w fun e w' => e = .returned (.bool true) ∧ Below w.heap.size w w' := by
  have H := Lib.hid h
  have H2 := Lib.hid h2
  have HZ := Lib.hid hz
  obtain ⟨a, cap, rfl, ha⟩ := h.shape
  obtain ⟨a2, cap2, rfl, ha2⟩ := h2.shape
  have HA := Lib.hid ha
  have HA2 := Lib.hid ha2
  obtain ⟨N, hN⟩ : ∃ N, N = vs.length := ⟨_, rfl⟩
  have HN := Lib.hid hN
  have HN2 := Lib.hid (hN.trans hn)
  rw [← hN] at hm
  have hne : ((N : Int) != (N : Int)) = false := bne_no rfl
  rw [← hn, ← hN]
  rw [← hN] at H
  rw [← hn, ← hN] at H2
  clear h h2 ha ha2 hn hN hz
  go_enter Try.func20, Try.ntmps20
  go_wp2
  go_loopw [13] (fun i wr => ∃ k : Nat, k ≤ N ∧ i = .int .i64 k ∧ Below w.heap.size w wr) (fun i _ => N - (intOf i).toNat)
  case atStart => exact ⟨0, Nat.zero_le _, rfl, Below.refl _ _⟩
  case round =>
    obtain ⟨k, hk, rfl, hb⟩ := hrel
    have HB := Lib.hid hb
    clear hb
    by_cases hlt : k < N
    · rcases HA.out with hx | ⟨gv, rfl⟩
      · have := HN.out; rw [hx] at this; simp at this; omega
      rcases HA2.out with hx | ⟨gv2, rfl⟩
      · have := HN2.out; rw [hx] at this; simp at this; omega
      obtain ⟨z, hz⟩ : ∃ z, vs[k]? = some z := ⟨vs[k]'(by rw [← HN.out]; exact hlt), by simp⟩
      obtain ⟨z2, hz2⟩ : ∃ z, us[k]? = some z := ⟨us[k]'(by rw [← HN2.out]; exact hlt), by simp⟩
      have hc1 := (H.out.keep HB.out).cell hz
      have hc2 := (H2.out.keep HB.out).cell hz2
      have R1 := Lib.hid ((H.out.keep HB.out).at' k z hz)
      have R2 := Lib.hid ((H2.out.keep HB.out).at' k z2 hz2)
      obtain ⟨b1, d1, rfl⟩ := R1.out.shape'
      obtain ⟨b2, d2, rfl⟩ := R2.out.shape'
      clear hz hz2
      have R1d := Lib.hid (R1.out.drew.sl)
      have R2d := Lib.hid (R2.out.drew.sl)
      have HBd := Lib.hid (HB.out.drew)
      go_wp2
      go_region_with (go_at_call 11; refine (qSame_any _ _ (Z k) wr.drew R1d.out R2d.out (HZ.out k)).mono ?_; rintro e w1 ⟨rfl, hb⟩; have HB1 := Lib.hid (Below.step HBd.out HBd.out.size hb); clear hb)
      all_goals
        go_wp2
        go_roundw
        case rel => exact ⟨k + 1, by omega, by go_num, HB1.out⟩
        case measure => simp [intOf]; omega
    · obtain rfl : k = N := by omega
      go_wp2
      go_ret
      exact ⟨rfl, HB.out⟩

end Go.Proofs.Ytmdjmbmkgboeaaa
