/-
  Slices of words in arrays: the first place of a word.
-/
import Derived.Test.YtegclfohkjemgaaJG
import Derived.Test.YtegclfohkjemgaaJS
import Derived.Test.YtegclfohkjemgaaJM
import Derived.Laws.StructEq
namespace Go.Proofs.Ytegclfohkjemgaa
open Go.RowKit
set_option linter.unusedVariables false
set_option linter.unusedSimpArgs false
set_option maxRecDepth 100000

theorem guard8 : Try.prog.eqGuardType Try.prog.depth 63 = false := by kernel_rfl
theorem eq8 (x0 x1 x2 x3 x4 x5 x6 x7 y0 y1 y2 y3 y4 y5 y6 y7 : Int) (w : World) :
    (binOp .eql 63 (.agg #[.int .i64 x0, .int .i64 x1, .int .i64 x2, .int .i64 x3, .int .i64 x4, .int .i64 x5, .int .i64 x6, .int .i64 x7]) (.agg #[.int .i64 y0, .int .i64 y1, .int .i64 y2, .int .i64 y3, .int .i64 y4, .int .i64 y5, .int .i64 y6, .int .i64 y7])).run Try.prog w
      = .ok (.bool (x0 == y0 && x1 == y1 && x2 == y2 && x3 == y3 && x4 == y4 && x5 == y5 && x6 == y6 && x7 == y7)) w := by
  have hz := Try.sizeOf3
  have ha := Try.isAgg3
  have u3 := Try.underlying3
  rw [run_eql_struct, show (10000 : Nat) = 9998 + 1 + 1 from rfl]
  have hi := fun (a b : Int) (w : World) => run_equalIn_int (P := Try.prog) w 9998 3 .i64 .i64 a b u3
  rw [Op.equalIn]
  simp only [Sem.run_bind, run_underlying arr8, Result.andThen_ok]
  by_cases h0 : x0 = y0
  · skip
    by_cases h1 : x1 = y1
    · skip
      by_cases h2 : x2 = y2
      · skip
        by_cases h3 : x3 = y3
        · skip
          by_cases h4 : x4 = y4
          · skip
            by_cases h5 : x5 = y5
            · skip
              by_cases h6 : x6 = y6
              · skip
                by_cases h7 : x7 = y7
                · skip
                  simp [part, ha, hz, hi, Sem.run_bind, Result.andThen, Std.Legacy.Range.forIn_eq_forIn_range', Std.Legacy.Range.size, List.range', h0, h1, h2, h3, h4, h5, h6, h7]
                · simp [part, ha, hz, hi, Sem.run_bind, Result.andThen, Std.Legacy.Range.forIn_eq_forIn_range', Std.Legacy.Range.size, List.range', h0, h1, h2, h3, h4, h5, h6, h7]
              · simp [part, ha, hz, hi, Sem.run_bind, Result.andThen, Std.Legacy.Range.forIn_eq_forIn_range', Std.Legacy.Range.size, List.range', h0, h1, h2, h3, h4, h5, h6]
            · simp [part, ha, hz, hi, Sem.run_bind, Result.andThen, Std.Legacy.Range.forIn_eq_forIn_range', Std.Legacy.Range.size, List.range', h0, h1, h2, h3, h4, h5]
          · simp [part, ha, hz, hi, Sem.run_bind, Result.andThen, Std.Legacy.Range.forIn_eq_forIn_range', Std.Legacy.Range.size, List.range', h0, h1, h2, h3, h4]
        · simp [part, ha, hz, hi, Sem.run_bind, Result.andThen, Std.Legacy.Range.forIn_eq_forIn_range', Std.Legacy.Range.size, List.range', h0, h1, h2, h3]
      · simp [part, ha, hz, hi, Sem.run_bind, Result.andThen, Std.Legacy.Range.forIn_eq_forIn_range', Std.Legacy.Range.size, List.range', h0, h1, h2]
    · simp [part, ha, hz, hi, Sem.run_bind, Result.andThen, Std.Legacy.Range.forIn_eq_forIn_range', Std.Legacy.Range.size, List.range', h0, h1]
  · simp [part, ha, hz, hi, Sem.run_bind, Result.andThen, Std.Legacy.Range.forIn_eq_forIn_range', Std.Legacy.Range.size, List.range', h0]

/-- Words in arrays, one behind the other. -/
def WC (w : World) (g off n : Nat) (F : Nat → List Int) : Prop := ∀ j, j < n → ∀ i, i < 8 → w.cell? ⟨g, off + j * 8 + i, none⟩ = some (.int .i64 ((F j).getD i 0))
theorem WC.keep {w w' : World} {g off n : Nat} {F : Nat → List Int} (h : WC w g off n F) (hb : Below w.heap.size w w') : WC w' g off n F := fun j hj i hi => Below.keeps_cell hb (h j hj i hi)
theorem WC.drew {w : World} {g off n : Nat} {F : Nat → List Int} (h : WC w g off n F) : WC w.drew g off n F := h
/-- A slice of words that is read. -/
def SrcW (w : World) (v : Value) (n : Nat) (F : Nat → List Int) : Prop := (v = .slice none 0 0 ∧ n = 0) ∨ ∃ g off cap, v = .slice (some ⟨g, off, none⟩) n cap ∧ WC w g off n F
theorem SrcW.keep {w w' : World} {v : Value} {n : Nat} {F : Nat → List Int} (h : SrcW w v n F) (hb : Below w.heap.size w w') : SrcW w' v n F := by
  rcases h with h | ⟨g, off, cap, h1, h2⟩
  · exact .inl h
  · exact .inr ⟨g, off, cap, h1, h2.keep hb⟩

theorem dw_ext {a b : List Int} (hl : a.length = b.length) (h8 : a.length ≤ 8) (h : ∀ i, i < 8 → a.getD i 0 = b.getD i 0) : a = b := by
  apply List.ext_getElem hl
  intro i h1 h2
  have := h i (by omega)
  simpa [List.getD_eq_getElem?_getD, h1, h2] using this
theorem eqW (a b : List Int) (q : Bool) (hl : a.length = b.length) (h8 : a.length ≤ 8) (hq : decide (a = b) = q) (w : World) :
    (binOp .eql 63 (.agg #[.int .i64 (a.getD 0 0), .int .i64 (a.getD 1 0), .int .i64 (a.getD 2 0), .int .i64 (a.getD 3 0), .int .i64 (a.getD 4 0), .int .i64 (a.getD 5 0), .int .i64 (a.getD 6 0), .int .i64 (a.getD 7 0)]) (.agg #[.int .i64 (b.getD 0 0), .int .i64 (b.getD 1 0), .int .i64 (b.getD 2 0), .int .i64 (b.getD 3 0), .int .i64 (b.getD 4 0), .int .i64 (b.getD 5 0), .int .i64 (b.getD 6 0), .int .i64 (b.getD 7 0)])).run Try.prog w = .ok (.bool q) w := by
  rw [eq8]
  congr 2
  rw [← hq, Bool.eq_iff_iff, decide_eq_true_iff]
  simp only [Bool.and_eq_true, beq_iff_eq]
  constructor
  · rintro ⟨⟨⟨⟨⟨⟨⟨e0, e1⟩, e2⟩, e3⟩, e4⟩, e5⟩, e6⟩, e7⟩
    refine dw_ext hl h8 fun i hi => ?_
    match i, hi with
    | 0, _ => exact e0
    | 1, _ => exact e1
    | 2, _ => exact e2
    | 3, _ => exact e3
    | 4, _ => exact e4
    | 5, _ => exact e5
    | 6, _ => exact e6
    | 7, _ => exact e7
    | i + 8, h => omega
  · rintro rfl; simp

set_option maxHeartbeats 1000000 in
theorem indexW_any (v : Value) (n t : Nat) (F : Nat → List Int) (x : List Int) (w : World) (h : SrcW w v n F) (hx : x.length ≤ 8) (hF : ∀ j, j < n → (F j).length = x.length) (ht : t ≤ n) (hno : ∀ j, j < t → F j ≠ x) (hyes : t < n → F t = x) (hn : n ≤ 1000000) :
    Calls Try.prog 111 #[v, .agg (dw x)] w fun e w' => e = .returned (.int .i64 (if t < n then (t : Int) else -1)) ∧ Below w.heap.size w w' := by
  have H := Lib.hid h
  have HF := Lib.hid hF
  have HNO := Lib.hid hno
  have HYES := Lib.hid hyes
  have hsz := dw_size hx
  have hgd := guard8
  obtain ⟨a, cap, rfl⟩ : ∃ a cap, v = .slice a n cap := by
    rcases h with ⟨rfl, rfl⟩ | ⟨g, off, cap, rfl, _⟩
    · exact ⟨_, _, rfl⟩
    · exact ⟨_, _, rfl⟩
  obtain ⟨W1, hW1⟩ : ∃ W1, W1 = w.alloc (.cells (dw x) 63) := ⟨_, rfl⟩
  have HB := Lib.hid (show Below w.heap.size w W1 by rw [hW1]; exact alloc_below w _)
  have HC := Lib.hid (fun (j : Nat) (hj : j < 8) => dw_cells (w := W1) (g := w.heap.size) hx (by rw [hW1]; exact heap_alloc_new w _) j hj)
  have H1 := Lib.hid (H.out.keep HB.out)
  obtain ⟨r, hr⟩ : ∃ r : Int, r = (if t < n then (t : Int) else -1) := ⟨_, rfl⟩
  have HR := Lib.hid hr
  rw [← hr]
  clear h hF hno hyes hr
  go_enter Try.func111, Try.ntmps111
  go_wp2
  rw [← hW1]
  clear hW1
  go_loopw [8] (fun i wr => ∃ k q : Nat, k ≤ t ∧ i = .int .i64 (k : Int) ∧ wr = W1.drewN q) (fun i _ => n - (intOf i).toNat)
  case atStart => exact ⟨0, 0, Nat.zero_le _, rfl, rfl⟩
  case round =>
    obtain ⟨k, q, hk, rfl, rfl⟩ := hrel
    by_cases hlt : k < n
    · rcases H1.out with ⟨_, h0⟩ | ⟨g, off, cap', hu, hwc⟩
      · omega
      simp only [Value.slice.injEq] at hu
      obtain ⟨rfl, _, rfl⟩ := hu
      have c0 : W1.cell? ⟨w.heap.size, 0, none⟩ = some (.int .i64 (x.getD 0 0)) := HC.out 0 (by omega)
      have c1 : W1.cell? ⟨w.heap.size, 1, none⟩ = some (.int .i64 (x.getD 1 0)) := HC.out 1 (by omega)
      have c2 : W1.cell? ⟨w.heap.size, 2, none⟩ = some (.int .i64 (x.getD 2 0)) := HC.out 2 (by omega)
      have c3 : W1.cell? ⟨w.heap.size, 3, none⟩ = some (.int .i64 (x.getD 3 0)) := HC.out 3 (by omega)
      have c4 : W1.cell? ⟨w.heap.size, 4, none⟩ = some (.int .i64 (x.getD 4 0)) := HC.out 4 (by omega)
      have c5 : W1.cell? ⟨w.heap.size, 5, none⟩ = some (.int .i64 (x.getD 5 0)) := HC.out 5 (by omega)
      have c6 : W1.cell? ⟨w.heap.size, 6, none⟩ = some (.int .i64 (x.getD 6 0)) := HC.out 6 (by omega)
      have c7 : W1.cell? ⟨w.heap.size, 7, none⟩ = some (.int .i64 (x.getD 7 0)) := HC.out 7 (by omega)
      have e0 : W1.cell? ⟨g, off + k * 8, none⟩ = some (.int .i64 ((F k).getD 0 0)) := hwc k hlt 0 (by omega)
      have e1 : W1.cell? ⟨g, off + k * 8 + 1, none⟩ = some (.int .i64 ((F k).getD 1 0)) := hwc k hlt 1 (by omega)
      have e2 : W1.cell? ⟨g, off + k * 8 + 2, none⟩ = some (.int .i64 ((F k).getD 2 0)) := hwc k hlt 2 (by omega)
      have e3 : W1.cell? ⟨g, off + k * 8 + 3, none⟩ = some (.int .i64 ((F k).getD 3 0)) := hwc k hlt 3 (by omega)
      have e4 : W1.cell? ⟨g, off + k * 8 + 4, none⟩ = some (.int .i64 ((F k).getD 4 0)) := hwc k hlt 4 (by omega)
      have e5 : W1.cell? ⟨g, off + k * 8 + 5, none⟩ = some (.int .i64 ((F k).getD 5 0)) := hwc k hlt 5 (by omega)
      have e6 : W1.cell? ⟨g, off + k * 8 + 6, none⟩ = some (.int .i64 ((F k).getD 6 0)) := hwc k hlt 6 (by omega)
      have e7 : W1.cell? ⟨g, off + k * 8 + 7, none⟩ = some (.int .i64 ((F k).getD 7 0)) := hwc k hlt 7 (by omega)
      have heq := fun (b : Bool) (hb : decide (x = F k) = b) (w : World) => eqW x (F k) b (HF.out k hlt).symm hx hb w
      obtain ⟨p0, hp0⟩ : ∃ p, p = x.getD 0 0 := ⟨_, rfl⟩
      obtain ⟨s0, hs0⟩ : ∃ s, s = (F k).getD 0 0 := ⟨_, rfl⟩
      obtain ⟨p1, hp1⟩ : ∃ p, p = x.getD 1 0 := ⟨_, rfl⟩
      obtain ⟨s1, hs1⟩ : ∃ s, s = (F k).getD 1 0 := ⟨_, rfl⟩
      obtain ⟨p2, hp2⟩ : ∃ p, p = x.getD 2 0 := ⟨_, rfl⟩
      obtain ⟨s2, hs2⟩ : ∃ s, s = (F k).getD 2 0 := ⟨_, rfl⟩
      obtain ⟨p3, hp3⟩ : ∃ p, p = x.getD 3 0 := ⟨_, rfl⟩
      obtain ⟨s3, hs3⟩ : ∃ s, s = (F k).getD 3 0 := ⟨_, rfl⟩
      obtain ⟨p4, hp4⟩ : ∃ p, p = x.getD 4 0 := ⟨_, rfl⟩
      obtain ⟨s4, hs4⟩ : ∃ s, s = (F k).getD 4 0 := ⟨_, rfl⟩
      obtain ⟨p5, hp5⟩ : ∃ p, p = x.getD 5 0 := ⟨_, rfl⟩
      obtain ⟨s5, hs5⟩ : ∃ s, s = (F k).getD 5 0 := ⟨_, rfl⟩
      obtain ⟨p6, hp6⟩ : ∃ p, p = x.getD 6 0 := ⟨_, rfl⟩
      obtain ⟨s6, hs6⟩ : ∃ s, s = (F k).getD 6 0 := ⟨_, rfl⟩
      obtain ⟨p7, hp7⟩ : ∃ p, p = x.getD 7 0 := ⟨_, rfl⟩
      obtain ⟨s7, hs7⟩ : ∃ s, s = (F k).getD 7 0 := ⟨_, rfl⟩
      rw [← hp0, ← hp1, ← hp2, ← hp3, ← hp4, ← hp5, ← hp6, ← hp7, ← hs0, ← hs1, ← hs2, ← hs3, ← hs4, ← hs5, ← hs6, ← hs7] at heq
      rw [← hp0] at c0
      rw [← hs0] at e0
      rw [← hp1] at c1
      rw [← hs1] at e1
      rw [← hp2] at c2
      rw [← hs2] at e2
      rw [← hp3] at c3
      rw [← hs3] at e3
      rw [← hp4] at c4
      rw [← hs4] at e4
      rw [← hp5] at c5
      rw [← hs5] at e5
      rw [← hp6] at c6
      rw [← hs6] at e6
      rw [← hp7] at c7
      rw [← hs7] at e7
      clear hp0 hs0 hp1 hs1 hp2 hs2 hp3 hs3 hp4 hs4 hp5 hs5 hp6 hs6 hp7 hs7 hwc
      by_cases hkt : k < t
      · have hq := heq false (decide_eq_false (fun h => HNO.out k hkt h.symm))
        clear heq
        go_wp2
        go_quiet (fail)
        rename_i nq
        go_wp2
        go_roundw
        case rel => exact ⟨k + 1, q + nq, by omega, by go_num, by first | rfl | rw [World.drewN_drewN]⟩
        case measure => simp [intOf]; omega
      · obtain rfl : k = t := by omega
        have hq := heq true (decide_eq_true (HYES.out hlt).symm)
        have HRE := Lib.hid (show r = (k : Int) by rw [HR.out, if_pos hlt])
        clear heq
        go_wp2
        go_quiet (fail)
        rename_i nq
        go_wp2
        go_ret
        exact ⟨ret_int HRE.out.symm, by first | exact below_drewN' HB.out _ | exact below_drewN' (below_drewN' HB.out _) _⟩
    · obtain rfl : k = n := by omega
      have HRE := Lib.hid (show r = -1 by rw [HR.out, if_neg (by omega)])
      go_wp2
      go_ret
      exact ⟨ret_int HRE.out.symm, below_drewN' HB.out _⟩

end Go.Proofs.Ytegclfohkjemgaa
