/-
  The program's words in arrays: their value, the word of a value, lists.
-/
import Derived.Test.YtadjjmlneghklaaJB
import Derived.Test.YtadjjmlneghklaaI
import Derived.Laws.Rows
namespace Go.Proofs.Ytadjjmlneghklaa
open Go.RowKit
set_option linter.unusedVariables false
set_option linter.unusedSimpArgs false
set_option maxRecDepth 100000

/-- The cells of an array that has digits in front, and zeros behind them. -/
def dw (xs : List Int) : Array Value := ((xs ++ List.replicate (8 - xs.length) 0).map (Value.int .i64)).toArray
theorem dw_size {xs : List Int} (h : xs.length ≤ 8) : (dw xs).size = 8 := by simp [dw]; omega
theorem dw_get {xs : List Int} {j : Nat} (h : j < xs.length) : (dw xs)[j]? = some (.int .i64 xs[j]) := by
  simp [dw, List.getElem?_append, h]

theorem arr8 : Try.prog.underlying 65 = some (.array 8 3) := by kernel_rfl
theorem len8 : Try.prog.arrayLen 65 = 8 := by kernel_rfl
theorem elem8 : Try.prog.elem 65 = 3 := by kernel_rfl
theorem slA (w : World) (g W : Nat) (h : W ≤ 8) : (Instr.sliceAt 65 (.pointer (some ⟨g, 0, none⟩)) none (some (.int .i64 (W : Int))) none).run Try.prog w = .ok (.slice (some ⟨g, 0, none⟩) W 8) w := by
  have h1 := run_sliceAt_array_h (P := Try.prog) w 65 ⟨g, 0, none⟩ (by rw [len8, elem8]; exact arr8) .i64 (W : Int) (by omega) (by rw [len8]; omega)
  rw [h1, len8, elem8]
  rfl
theorem slAll (w : World) (g : Nat) : (Instr.sliceAt 65 (.pointer (some ⟨g, 0, none⟩)) none none none).run Try.prog w = .ok (.slice (some ⟨g, 0, none⟩) 8 8) w := by
  have h1 := run_sliceAt_array_all (P := Try.prog) w 65 ⟨g, 0, none⟩ (by rw [len8, elem8]; exact arr8)
  rw [h1, len8, elem8]
  rfl

theorem dw_cell {w : World} {xs : List Int} (o : Obj) (j : Nat) (h : j < xs.length) : ((w.alloc o).alloc (.cells (dw xs) 65)).cell? ⟨w.heap.size + 1, j, none⟩ = some (.int .i64 xs[j]) := by
  have h2 := heap_alloc_new (w.alloc o) (.cells (dw xs) 65)
  rw [World.size_alloc] at h2
  rw [cell_of_row _ _ j (dw xs) 65 (0, 0) h2, dw_get h]

theorem value_any (xs : List Int) (b : Int) (w : World) (hb : 2 ≤ b) (hb' : b ≤ 16) (hx : ∀ x ∈ xs, 0 ≤ x ∧ x ≤ b - 1) (hl : xs.length ≤ 8) :
    Calls Try.prog 58 #[shp (xs.length : Int) b, .agg (dw xs)] w fun e w' => e = .returned (.int .i64 (vl b xs)) ∧ Below w.heap.size w w' := by
  have HB := Lib.hid (show Below w.heap.size w ((w.alloc (.cells #[.int .i64 (xs.length : Int), .int .i64 b] 45)).alloc (.cells (dw xs) 65)) from ((Below.refl _ _).alloc (Nat.le_refl _) _).alloc (by simp) _)
  have HC := Lib.hid (show ∀ j (h : j < xs.length), ((w.alloc (.cells #[.int .i64 (xs.length : Int), .int .i64 b] 45)).alloc (.cells (dw xs) 65)).cell? ⟨w.heap.size + 1, j, none⟩ = some (.int .i64 xs[j]) from fun j h => dw_cell _ j h)
  have HV := Lib.hid (show ∀ k, k ≤ xs.length → 0 ≤ vl b (xs.take k) ∧ vl b (xs.take k) ≤ 4294967296 from fun k hk => by
    have h1 := vl_bd hb k (xs.take k) (by simp; omega) (fun x h => hx x (List.mem_of_mem_take h))
    have h2 := (ws_all hb hb' (show k ≤ 8 by omega)).2.2
    omega)
  have HX := Lib.hid hx
  have hsz := dw_size hl
  have hsl := fun w g => slA w g xs.length hl
  clear hx
  go_enter Try.func58, Try.ntmps58
  go_wp2
  go_loop [5, 12] (fun p i => ∃ k : Nat, k ≤ xs.length ∧ i = .int .i64 (k : Int) ∧ p = .int .i64 (vl b (xs.take k))) (fun _ i => xs.length - (intOf i).toNat)
  case atStart => exact ⟨0, Nat.zero_le _, rfl, rfl⟩
  case round =>
    obtain ⟨k, hk, rfl, rfl⟩ := hrel
    obtain ⟨v1, v2⟩ := HV.out k hk
    obtain ⟨p, hp⟩ : ∃ p, p = vl b (xs.take k) := ⟨_, rfl⟩
    rw [← hp] at v1 v2
    by_cases hlt : k < xs.length
    · have HS := Lib.hid (show vl b (xs.take (k + 1)) = p * b + xs[k] by rw [take_snoc' xs k hlt, vl_snoc, ← hp])
      have hcell := HC.out k hlt
      obtain ⟨d1, d2⟩ := HX.out xs[k] (List.getElem_mem hlt)
      obtain ⟨d, hd⟩ : ∃ d, d = xs[k] := ⟨_, rfl⟩
      rw [← hd] at d1 d2 HS hcell
      obtain ⟨m1, m2⟩ : 0 ≤ p * b ∧ p * b ≤ 4294967296 * 16 := ⟨Int.mul_nonneg (by omega) (by omega), Int.mul_le_mul v2 hb' (by omega) (by omega)⟩
      rw [← hp]
      clear hp hd
      go_wp2
      go_round
      case rel => exact ⟨k + 1, by omega, by go_num, by rw [HS.out]⟩
      case measure => simp [intOf]; omega
    · obtain rfl : k = xs.length := by omega
      have HE := Lib.hid (show p = vl b xs by rw [hp, List.take_of_length_le (Nat.le_refl _)])
      rw [← hp]
      clear hp
      go_wp2
      go_ret
      exact ⟨ret_int HE.out, HB.out⟩

end Go.Proofs.Ytadjjmlneghklaa
