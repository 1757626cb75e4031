/-
  Functions that make a slice: the copy of an argument; digits.
-/
import Derived.Test.YteadgaecjoenlaaW2
import Derived.Test.YteadgaecjoenlaaD
namespace Go.Proofs.Yteadgaecjoenlaa
open Go.RowKit
set_option linter.unusedVariables false
set_option linter.unusedSimpArgs false

theorem toIntS_any (v : Value) (xs : List Int) (w : World) (h : Sl w v xs) (hl : xs.length ≤ 2000000) :
    Calls Try.prog 16 #[v] w fun e w' => ∃ u, e = .returned u ∧ Rd w' w.heap.size u xs ∧ Below w.heap.size w w' := by
  obtain ⟨a, cap, rfl, hx⟩ := h
  have HX := Lib.hid hx
  clear hx
  go_enter Try.func16, Try.ntmps16
  go_wp2_with (at_make; refine wpList_mkR rfl _ _ rfl .i64 .i64 _ _ xs.length rfl rfl rfl rfl (by omega) ?_; intro w1 hr1 hg1 hb1)
  have hr1' := Lib.hid hr1
  have hb1' := Lib.hid hb1
  clear hr1 hg1 hb1
  go_loopw [4] (fun i wr => ∃ k : Nat, k ≤ xs.length ∧ i = .int .i64 k ∧ Rd wr w.heap.size (.slice (some ⟨w.heap.size, 0, none⟩) xs.length xs.length) (xs.take k ++ List.replicate (xs.length - k) 0) ∧ Below w.heap.size w wr) (fun i _ => xs.length - (intOf i).toNat)
  case atStart => exact ⟨0, Nat.zero_le _, rfl, by simpa using hr1'.out, hb1'.out⟩
  case round =>
    obtain ⟨k, hk, rfl, hr, hb⟩ := hrel
    have HR := Lib.hid hr
    have HB := Lib.hid hb
    clear hr hb
    by_cases hlt : k < xs.length
    · rcases HX.out with hx | ⟨b, off, rfl, hbl, hc⟩
      · rw [hx] at hlt; simp at hlt
      · have hcell : wr.cell? ⟨b, off + k, none⟩ = some (.int .i64 xs[k]) := (HB.out.cell (p := ⟨b, off + k, none⟩) hbl).trans (hc k hlt)
        obtain ⟨hcs, hfs⟩ := HR.out.at.2.2.2.2
        obtain ⟨q, hd⟩ : ∃ q, wr.cell? ⟨w.heap.size, k, none⟩ = some (.int .i64 q) := ⟨_, hcs k (by simp; omega)⟩
        have hf := hfs k
        have HS := Lib.hid (HR.out.set k xs[k])
        have HBs := Lib.hid (HB.out.setCell (p := ⟨w.heap.size, k, none⟩) (Nat.le_refl _) (.int .i64 xs[k]))
        clear hc hcs hfs
        go_wp2
        go_roundw
        case rel => exact ⟨k + 1, by omega, by go_num, by rw [← set_take_rep xs k xs.length rfl hlt]; exact HS.out.1, HBs.out⟩
        case measure => simp [intOf]; omega
    · obtain rfl : k = xs.length := by omega
      go_wp2
      go_ret
      exact ⟨_, rfl, by simpa using HR.out, HB.out⟩


theorem dgOf_any (n b : Int) (w : World) (h0 : 0 ≤ n) (h1 : n ≤ 1000000000000) (hb : 2 ≤ b) (hb' : b ≤ 16) :
    Calls Try.prog 71 #[.int .i64 n, .int .i64 b] w fun e w' => ∃ u, e = .returned u ∧ Rd w' w.heap.size u (dgs b n) ∧ Below w.heap.size w w' := by
  by_cases hz : n = 0
  · subst hz
    have hd := Lib.hid (show dgs b 0 = [0] by rw [dgs, revD_zero b hb]; rfl)
    go_enter Try.func71, Try.ntmps71
    go_wp2
    go_ret
    exact ⟨_, rfl, by rw [hd.out]; exact Rd.lit _ _, (Below.refl _ _).alloc (Nat.le_refl _) _⟩
  · have hnz := beq_no hz
    have hl := Lib.hid (revD_len40 b n hb h0 h1)
    have hn : 0 < n := by omega
    have hst := Lib.hid (show (lft b n).reverse ++ [] = dgs b n by rw [lft, if_neg hz, List.append_nil, dgs])
    clear hz
    go_enter Try.func71, Try.ntmps71
    go_wp2
    go_loopw [0, 5] (fun c o wr => ∃ (m : Int) (out : List Int), 0 ≤ m ∧ m ≤ 1000000000000 ∧ c = .int .i64 m ∧ Rd wr w.heap.size o out ∧ Below w.heap.size w wr ∧ (lft b m).reverse ++ out = dgs b n) (fun c _ _ => (intOf c).toNat)
    case atStart => exact ⟨n, [], by omega, by omega, rfl, Rd.nil _ _, Below.refl _ _, hst.out⟩
    case round =>
      obtain ⟨m, out, m0, m1, rfl, hr, hbl, heq⟩ := hrel
      have HR := Lib.hid hr
      have HB := Lib.hid hbl
      have HE := Lib.hid heq
      clear hr hbl heq
      have hol : out.length ≤ 40 := by
        have h2 := congrArg List.length HE.out
        have h3 := hl.out
        rw [dgs_len] at h2
        simp at h2
        omega
      by_cases hm : 0 < m
      · have hdv := div_half b m hb m0
        have hdl := Int.ediv_lt_of_lt_mul (a := m) (b := m) (c := b) (by omega) (by have := Int.mul_le_mul_of_nonneg_left hb (show (0:Int) ≤ m by omega); omega)
        have hmd := mod_bd b m hb
        have hls := Lib.hid (lft_step b m hb hm)
        have hsz := HB.out.size
        go_wp2_with (at_builtin; refine wpList_appR rfl _ _ rfl w.heap.size w.heap.size _ _ [m % b] out rfl rfl (Rd.litB _ _ _ (by omega)) (HR.out.alloc _) (by simp; omega) (by simp; omega) ?_; intro v1 w1 hr1 hg1 hb1)
        have HR1 := Lib.hid hr1
        have HB1 := Lib.hid (((HB.out.alloc (by omega) _).trans hb1))
        clear hr1 hg1 hb1
        go_wp2
        go_roundw
        case rel => exact ⟨m / b, m % b :: out, by omega, by omega, by go_num, HR1.out, HB1.out, by rw [← HE.out, hls.out]; simp⟩
        case measure => simp [intOf]; omega
      · obtain rfl : m = 0 := by omega
        go_wp2
        go_ret
        exact ⟨_, rfl, by rw [← HE.out]; exact HR.out, HB.out⟩

end Go.Proofs.Yteadgaecjoenlaa
