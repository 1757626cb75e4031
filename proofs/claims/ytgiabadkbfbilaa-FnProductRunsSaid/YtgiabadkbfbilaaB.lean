/-
  Products, reversed digits.
-/
import Derived.Test.YtgiabadkbfbilaaC
import Derived.Test.YtgiabadkbfbilaaE
namespace Go.Proofs.Ytgiabadkbfbilaa
open Go.RowKit
set_option linter.unusedVariables false
set_option linter.unusedSimpArgs false

theorem digitProduct_any (n b : Int) (w : World) (h0 : 0 ≤ n) (h1 : n ≤ 1000000000000) (hb : 2 ≤ b) (hb' : b ≤ 16) :
    Calls Try.prog 98 #[.int .i64 b, .int .i64 n] w fun e w' => e = .returned (.int .i64 (prodW (dgs b n) 1)) ∧ Below w.heap.size w w' := by
  obtain ⟨xs, hxs⟩ : ∃ xs, xs = dgs b n := ⟨_, rfl⟩
  have hlen : xs.length ≤ 40 := by rw [hxs]; exact dgs_len40 b n hb h0 h1
  have HX := Lib.hid hxs
  clear hxs
  rw [← HX.out]
  go_enter Try.func98, Try.ntmps98
  go_wp2_with fail
  refine (digits_any _ _ _ h0 (by omega) hb hb').mono ?_
  rintro e w1 ⟨g, cap, rfl, hr, hbl⟩
  rw [← HX.out] at hr
  rw [← HX.out]
  have HB := Lib.hid hbl
  have hc' := Lib.hid hr.at.2.2.2.2.1
  clear hbl hr
  go_wp2
  go_loop [5, 12] (fun s i => ∃ (k : Nat) (m : Int), k ≤ xs.length ∧ i = .int .i64 k ∧ s = .int .i64 m ∧ prodW (xs.drop k) m = prodW xs 1) (fun _ i => xs.length - (intOf i).toNat)
  case atStart => exact ⟨0, 1, Nat.zero_le _, rfl, rfl, rfl⟩
  case round =>
    obtain ⟨k, m, hk, rfl, rfl, hp⟩ := hrel
    have hp' := Lib.hid hp
    clear hp
    by_cases hlt : k < xs.length
    · have hcell := hc'.out k hlt
      have hs := Lib.hid (prodW_step xs k m hlt)
      go_wp2
      go_round
      case rel => exact ⟨k + 1, wrap64 (m * xs[k]), by omega, by go_num, by first | rfl | go_num, by rw [← hs.out]; exact hp'.out⟩
      case measure => simp [intOf]; omega
    · obtain rfl : k = xs.length := by omega
      go_wp2
      go_ret
      exact ⟨ret_int (by have := hp'.out; simpa [prodW] using this), HB.out⟩

/-- What is left of a list, from the end on, in the other order. -/
theorem back_step (xs : List Int) (j : Nat) (h : j < xs.length) : (xs.drop j).reverse = (xs.drop (j + 1)).reverse ++ [xs[j]] := by
  rw [drop_cons xs j h, List.reverse_cons]

theorem dgBack_any (v : Value) (xs : List Int) (w : World) (h : Sl w v xs) (hl : xs.length ≤ 2000000) :
    Calls Try.prog 131 #[v] w fun e w' => ∃ u, e = .returned u ∧ Rd w' w.heap.size u xs.reverse ∧ Below w.heap.size w w' := by
  obtain ⟨a, cap, rfl, hx⟩ := h
  have HX := Lib.hid hx
  clear hx
  go_enter Try.func131, Try.ntmps131
  go_wp2
  go_loopw [3, 4] (fun o i wr => ∃ (j : Nat) (out : List Int), j ≤ xs.length ∧ i = .int .i64 ((j : Int) - 1) ∧ Rd wr w.heap.size o out ∧ Below w.heap.size w wr ∧ out = (xs.drop j).reverse) (fun _ i _ => (intOf i + 1).toNat)
  case atStart => exact ⟨xs.length, [], Nat.le_refl _, rfl, Rd.nil _ _, Below.refl _ _, by simp⟩
  case round =>
    obtain ⟨j, out, hj, rfl, hr, hb, ho⟩ := hrel
    have HR := Lib.hid hr
    have HB := Lib.hid hb
    have HO := Lib.hid ho
    have hol : out.length ≤ 2000000 := by rw [ho]; simp; omega
    clear hr hb ho
    by_cases hpos : 0 < j
    · obtain ⟨i, hi⟩ : ∃ i, i + 1 = j := ⟨j - 1, by omega⟩
      subst hi
      have hlt : i < xs.length := by omega
      rcases HX.out with hx | ⟨b, off, rfl, hbl, hc⟩
      · rw [hx] at hlt; simp at hlt
      have hcell : wr.cell? ⟨b, off + i, none⟩ = some (.int .i64 xs[i]) := (HB.out.cell (p := ⟨b, off + i, none⟩) hbl).trans (hc i hlt)
      have hsz := HB.out.size
      have hst := Lib.hid (back_step xs i hlt)
      clear hc
      go_wp2_with (at_builtin; refine wpList_appR rfl _ _ rfl w.heap.size w.heap.size _ _ out [xs[i]] rfl rfl (HR.out.alloc _) (Rd.litB _ _ _ (by omega)) (by simp; omega) (by simp; omega) ?_; intro v1 w1 hr1 hg1 hb1)
      have HR1 := Lib.hid hr1
      have HB1 := Lib.hid (((HB.out.alloc (by omega) _).trans hb1))
      clear hr1 hg1 hb1
      go_wp2
      go_roundw
      case rel => exact ⟨i, _, by omega, by go_num, HR1.out, HB1.out, by rw [hst.out, HO.out]⟩
      case measure => (simp [intOf]; try omega)
    · obtain rfl : j = 0 := by omega
      go_wp2
      go_ret
      exact ⟨_, rfl, by have := HO.out; rw [List.drop_zero] at this; rw [← this]; exact HR.out, HB.out⟩

theorem rev_all {b n : Int} (h : ∀ x ∈ dgs b n, 0 ≤ x ∧ x ≤ b - 1) : ∀ x ∈ (dgs b n).reverse, 0 ≤ x ∧ x ≤ b - 1 := fun x hx => h x (List.mem_reverse.1 hx)

end Go.Proofs.Ytgiabadkbfbilaa
