/-
  The program's word of a value, in an array.
-/
import Derived.Test.YtadjjmlneghklaaJC
import Derived.Test.YtadjjmlneghklaaPW
import Derived.Laws.Rows
import Derived.Laws.CopyOwn
namespace Go.Proofs.Ytadjjmlneghklaa
open Go.RowKit
set_option linter.unusedVariables false
set_option linter.unusedSimpArgs false
set_option maxRecDepth 100000

/-- A block of eight numbers. -/
def Ar (w : World) (B g : Nat) (xs : List Int) : Prop := Rg 65 w B (.slice (some ⟨g, 0, none⟩) 8 8) (xs.map (Value.int .i64))
theorem Ar.len {w : World} {B g : Nat} {xs : List Int} (h : Ar w B g xs) : xs.length = 8 := by have := h.at.1; simpa using this.symm
theorem Ar.heap {w : World} {B g : Nat} {xs : List Int} (h : Ar w B g xs) : w.heap[g]? = some (.cells (xs.map (Value.int .i64)).toArray 65 (0, 0)) := by
  have hl := h.len
  rcases h.2 with ⟨h1, _⟩ | ⟨g', cap', cur, h1, hg, hh, hn, hm, hc, ht⟩
  · simp at h1
  · simp only [Value.slice.injEq, Option.some.injEq, Addr.mk.injEq, and_true, true_and] at h1
    obtain ⟨rfl, h2, h3⟩ := h1
    rw [hh]
    have h4 : cur.toList = xs.map (Value.int .i64) := by
      rw [← ht, List.take_of_length_le]
      simp [hl, hc, ← h3]
    rw [← h4]
theorem Ar.zero (w : World) (B : Nat) (hB : B ≤ w.heap.size) : Ar (w.alloc (.cells #[.int .i64 0, .int .i64 0, .int .i64 0, .int .i64 0, .int .i64 0, .int .i64 0, .int .i64 0, .int .i64 0] 65)) B w.heap.size (List.replicate 8 0) := by
  have := World.ownsRow_lit (e := 65) (size := 1) (base := B) w #[.int .i64 0, .int .i64 0, .int .i64 0, .int .i64 0, .int .i64 0, .int .i64 0, .int .i64 0, .int .i64 0] 8 hB (by unfold maxLen; omega) rfl
  exact this
theorem Ar.set {w : World} {B g : Nat} {xs : List Int} (h : Ar w B g xs) (j : Nat) (q : Int) : Ar (w.setCell ⟨g, j, none⟩ (.int .i64 q)) B g (xs.set j q) ∧ w.grownBy (w.setCell ⟨g, j, none⟩ (.int .i64 q)) (some g) := by
  have := Rg.set h j (.int .i64 q)
  rw [← List.map_set] at this
  exact this
theorem Ar.cell {w : World} {B g : Nat} {xs : List Int} (h : Ar w B g xs) (j : Nat) (hj : j < xs.length) : w.cell? ⟨g, j, none⟩ = some (.int .i64 xs[j]) := by
  have := h.at.2.2.2.2.2.1 j (by simpa using hj)
  simpa using this
theorem Ar.grown {w w' : World} {B g : Nat} {xs : List Int} {row : Option Nat} (h : Ar w B g xs) (hg : w.grownBy w' row) (hne : some g ≠ row) : Ar w' B g xs := Rg.grown h hg (.inr (by simpa [Value.ownBlock] using hne))
theorem Ar.alloc {w : World} {B g : Nat} {xs : List Int} (h : Ar w B g xs) (o : Obj) : Ar (w.alloc o) B g xs := Rg.alloc h o
theorem size_arr (xs : List Int) (h : xs.length = 8) : (Try.prog.info? 65).map (·.size) = some ((xs.map (Value.int .i64)).toArray).size := by
  rw [List.size_toArray, List.length_map, h]; kernel_rfl
theorem one_arr (xs : List Int) : ((xs.map (Value.int .i64)).toArray).all (·.oneCell') = true := by
  rw [List.all_toArray, List.all_map, List.all_eq_true]
  intro x _
  rfl
theorem Ar.frozen {w : World} {B g : Nat} {xs : List Int} (h : Ar w B g xs) (j : Nat) : w.frozen? ⟨g, j, none⟩ = false := h.at.2.2.2.2.2.2 j

theorem wd_step (b : Int) (j : Nat) (v : Int) (ts : List Int) : wd b (j + 1) v ++ ts = wd b j (v / b) ++ (v % b) :: ts := by rw [wd_succ, List.append_assoc]; rfl
theorem rep_set (j : Nat) (q : Int) (ts : List Int) : (List.replicate (j + 1) (0 : Int) ++ ts).set j q = List.replicate j 0 ++ q :: ts := by
  rw [List.replicate_succ', List.append_assoc, List.set_append_right _ _ (by simp)]
  simp

theorem word_any (W : Nat) (n b : Int) (w : World) (hb : 2 ≤ b) (hb' : b ≤ 16) (hW : W ≤ 8) (hn : 0 ≤ n) (hn' : n ≤ 4294967296) :
    Calls Try.prog 44 #[shp (W : Int) b, .int .i64 n] w fun e w' => e = .returned (.agg (dw (wd b W n))) ∧ Below w.heap.size w w' := by
  have HL := Lib.hid (wd_len b W n)
  go_enter Try.func44, Try.ntmps44
  go_wp2
  go_loopw [1, 6] (fun v i wr => ∃ (j : Nat) (m : Int) (ts : List Int), j ≤ W ∧ i = .int .i64 ((j : Int) - 1) ∧ v = .int .i64 m ∧ 0 ≤ m ∧ m ≤ 4294967296 ∧ wd b W n = wd b j m ++ ts ∧ ts.length + j = W ∧ Ar wr w.heap.size (w.heap.size + 1 + 1) (List.replicate j 0 ++ ts ++ List.replicate (8 - W) 0) ∧ Ar wr w.heap.size (w.heap.size + 1) (List.replicate 8 0) ∧
    Below w.heap.size w wr ∧ wr.cell? ⟨w.heap.size, 0, none⟩ = some (.int .i64 (W : Int)) ∧ wr.cell? ⟨w.heap.size, 1, none⟩ = some (.int .i64 b)) (fun _ i _ => (intOf i + 1).toNat)
  case atStart =>
    refine ⟨W, n, [], Nat.le_refl _, rfl, rfl, hn, hn', (List.append_nil _).symm, Nat.zero_add _, ?_, ?_, (((Below.refl _ _).alloc (Nat.le_refl _) _).alloc (by simp) _).alloc (by simp; omega) _, ?_, ?_⟩
    · rw [List.append_nil, List.replicate_append_replicate, show W + (8 - W) = 8 by omega]
      have := Ar.zero ((w.alloc (.cells #[.int .i64 (W : Int), .int .i64 b] 45)).alloc (.cells #[.int .i64 0, .int .i64 0, .int .i64 0, .int .i64 0, .int .i64 0, .int .i64 0, .int .i64 0, .int .i64 0] 65)) w.heap.size (by simp; omega)
      simpa using this
    · have := (Ar.zero (w.alloc (.cells #[.int .i64 (W : Int), .int .i64 b] 45)) w.heap.size (by simp)).alloc (.cells #[.int .i64 0, .int .i64 0, .int .i64 0, .int .i64 0, .int .i64 0, .int .i64 0, .int .i64 0, .int .i64 0] 65)
      simpa using this
    · simp [go_sem]
    · simp [go_sem]
  case round =>
    obtain ⟨j, m, ts, hj, rfl, rfl, m0, m1, he, hl, ha, har, hbl, c0, c1⟩ := hrel
    have HE := Lib.hid he
    have HTL := Lib.hid hl
    have HA := Lib.hid ha
    have HR := Lib.hid har
    have HB := Lib.hid hbl
    clear he hl ha hbl har
    have hfr := HA.out.frozen
    cases j with
    | zero =>
      have HD := Lib.hid (show List.replicate 0 0 ++ ts ++ List.replicate (8 - W) 0 = wd b W n ++ List.replicate (8 - (wd b W n).length) 0 by rw [HL.out, HE.out]; rfl)
      rw [HD.out] at HA
      have h8 := HA.out.len
      obtain ⟨ys, hys⟩ : ∃ ys, ys = wd b W n ++ List.replicate (8 - (wd b W n).length) 0 := ⟨_, rfl⟩
      rw [← hys] at HA h8
      obtain ⟨cs, hcs⟩ : ∃ cs, cs = (ys.map (Value.int .i64)).toArray := ⟨_, rfl⟩
      have HH := Lib.hid (show wr.heap[w.heap.size + 1 + 1]? = some (.cells cs 65 (0, 0)) by rw [hcs]; exact HA.out.heap)
      have HI := Lib.hid (show (Try.prog.info? 65).map (·.size) = some cs.size by rw [hcs]; exact size_arr ys h8)
      have HO := Lib.hid (show cs.all (·.oneCell') = true by rw [hcs]; exact one_arr ys)
      have HRH := Lib.hid HR.out.heap
      have HZ := Lib.hid (show ((List.replicate 8 (0 : Int)).map (Value.int .i64)).toArray.size = cs.size by rw [hcs]; simp [h8])
      have HCS := Lib.hid (show Value.agg cs = Value.agg (dw (wd b W n)) by rw [hcs, hys]; rfl)
      clear hys hcs h8 hfr
      go_wp2_with (first
        | (refine wpList_load_row rfl 65 (.tmp 5) rfl (w.heap.size + 1 + 1) rfl _ cs _ _ HH.out arr8 rfl HI.out ?_)
        | (refine wpList_store_row rfl 65 (.tmp 4) (.tmp 24) rfl (w.heap.size + 1) cs rfl rfl _ _ HRH.out HI.out HZ.out HO.out ?_))
      exact bodyPost_ret (v := .agg cs) (results_cell_row rfl _ _ (w.heap.size + 1) _ _ _ _ rfl (setRow_heap _ _ _ _ _ _ HRH.out) arr8 rfl HI.out) rfl ⟨by rw [HCS.out], below_setRow HB.out (by omega) _⟩
    | succ j =>
      have hmod := Int.emod_lt_of_pos m (show 0 < b by omega)
      have hmod0 := Int.emod_nonneg m (show b ≠ 0 by omega)
      have hdiv0 := Int.ediv_nonneg m0 (show 0 ≤ b by omega)
      have hdiv1 : m / b ≤ m := Int.ediv_le_self b m0
      have hcast : ((j + 1 : Nat) : Int) - 1 = (j : Int) := by omega
      have HW := Lib.hid (wd_step b j m ts)
      have hcell := HA.out.cell j (by rw [HA.out.len]; omega)
      obtain ⟨z, hz⟩ : ∃ z, z = (List.replicate (j + 1) 0 ++ ts ++ List.replicate (8 - W) 0)[j]'(by rw [HA.out.len]; omega) := ⟨_, rfl⟩
      rw [← hz] at hcell
      have HS := Lib.hid (HA.out.set j (m % b))
      have HSL := Lib.hid (show (List.replicate (j + 1) 0 ++ ts ++ List.replicate (8 - W) 0).set j (m % b) = List.replicate j 0 ++ (m % b :: ts) ++ List.replicate (8 - W) 0 by
        rw [List.append_assoc, rep_set, List.append_assoc]; rfl)
      have j8 : j < 8 := by omega
      rw [hcast]
      clear hcast hz
      go_wp2
      go_roundw
      case rel =>
        refine ⟨j, m / b, m % b :: ts, by omega, rfl, rfl, by omega, by omega, by rw [HE.out, HW.out], by have := HTL.out; simp; omega, ?_, HR.out.grown HS.out.2 (by simp), HB.out.trans (grown_below HS.out.2 HB.out.size (by omega)), ?_, ?_⟩
        · have := HS.out.1; rw [HSL.out] at this; exact this
        · exact HS.out.2.cell c0 (by simp <;> omega)
        · exact HS.out.2.cell c1 (by simp <;> omega)
      case measure => simp [intOf] <;> omega

end Go.Proofs.Ytadjjmlneghklaa
