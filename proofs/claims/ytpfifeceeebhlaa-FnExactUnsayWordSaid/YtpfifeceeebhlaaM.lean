/-
  Functions that make a slice: the copy of an argument; digits.
-/
import Derived.Test.YtpfifeceeebhlaaW2
import Derived.Test.YtpfifeceeebhlaaD
namespace Go.Proofs.Ytpfifeceeebhlaa
open Go.RowKit
set_option linter.unusedVariables false
set_option linter.unusedSimpArgs false

theorem toIntS_any (v : Value) (xs : List Int) (w : World) (h : Sl w v xs) (hl : xs.length ≤ 2000000) :
    Calls Try.prog 19 #[v] w fun e w' => ∃ u, e = .returned u ∧ Rd w' w.heap.size u xs ∧ Below w.heap.size w w' := by
  obtain ⟨a, cap, rfl, hx⟩ := h
  have HX := Lib.hid hx
  clear hx
  go_enter Try.func19, Try.ntmps19
  go_wp2_with (at_make; refine wpList_mkR rfl _ _ rfl .i64 .i64 _ _ xs.length rfl rfl rfl rfl (by omega) ?_; intro w1 hr1 hg1 hb1)
  have hr1' := Lib.hid hr1
  have hb1' := Lib.hid hb1
  clear hr1 hg1 hb1
  go_loopw [4] (fun i wr => ∃ k : Nat, k ≤ xs.length ∧ i = .int .i64 k ∧ Rd wr w.heap.size (.slice (some ⟨w.heap.size, 0, none⟩) xs.length xs.length) (xs.take k ++ List.replicate (xs.length - k) 0) ∧ Below w.heap.size w wr) (fun i _ => xs.length - (intOf i).toNat)
  case atStart => exact ⟨0, Nat.zero_le _, rfl, by simpa using hr1'.out, hb1'.out⟩
  case round =>
    obtain ⟨k, hk, rfl, hr, hb⟩ := hrel
    have HR := Lib.hid hr
    have HB := Lib.hid hb
    clear hr hb
    by_cases hlt : k < xs.length
    · rcases HX.out with hx | ⟨b, off, rfl, hbl, hc⟩
      · rw [hx] at hlt; simp at hlt
      · have hcell : wr.cell? ⟨b, off + k, none⟩ = some (.int .i64 xs[k]) := (HB.out.cell (p := ⟨b, off + k, none⟩) hbl).trans (hc k hlt)
        obtain ⟨hcs, hfs⟩ := HR.out.at.2.2.2.2
        obtain ⟨q, hd⟩ : ∃ q, wr.cell? ⟨w.heap.size, k, none⟩ = some (.int .i64 q) := ⟨_, hcs k (by simp; omega)⟩
        have hf := hfs k
        have HS := Lib.hid (HR.out.set k xs[k])
        have HBs := Lib.hid (HB.out.setCell (p := ⟨w.heap.size, k, none⟩) (Nat.le_refl _) (.int .i64 xs[k]))
        clear hc hcs hfs
        go_wp2
        go_roundw
        case rel => exact ⟨k + 1, by omega, by go_num, by rw [← set_take_rep xs k xs.length rfl hlt]; exact HS.out.1, HBs.out⟩
        case measure => simp [intOf]; omega
    · obtain rfl : k = xs.length := by omega
      go_wp2
      go_ret
      exact ⟨_, rfl, by simpa using HR.out, HB.out⟩


end Go.Proofs.Ytpfifeceeebhlaa
