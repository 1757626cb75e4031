/-
  The program's splitter and its splits.
-/
import Derived.Test.YtdjemoekkjbkiaaWT
import Derived.Test.YtdjemoekkjbkiaaTE
import Derived.Laws.AppendOwn
import Derived.Deep.AppendLies
import Derived.BigRegion
import Derived.Deep.RegionHeld3
namespace Go.Proofs.Ytdjemoekkjbkiaa
open Go.RowKit
set_option linter.unusedVariables false
set_option linter.unusedSimpArgs false
set_option maxRecDepth 100000

theorem loadVar_three {T : TypeId} {d : TypeDesc} (hu : Try.prog.underlying T = some d) (hd : (match d with | .struct _ | .array _ _ => true | _ => false) = true) (hi : (Try.prog.info? T).map (·.size) = some 3)
    (w : World) (s : Nat) (x0 x1 x2 : Value) (h0 : w.cell? ⟨s, 0, none⟩ = some x0) (h1 : w.cell? ⟨s, 1, none⟩ = some x1) (h2 : w.cell? ⟨s, 2, none⟩ = some x2) : (loadVar T ⟨s, 0, none⟩).run Try.prog w = .ok (.agg #[x0, x1, x2]) w := by
  have hl : (loadCells ⟨s, 0, none⟩ ([x0, x1, x2] : List Value).length).run Try.prog w = .ok ([x0, x1, x2] : List Value).toArray w :=
    run_loadCells_list (P := Try.prog) w ⟨s, 0, none⟩ [x0, x1, x2] (fun j v hv => by
      have hadd : (⟨s, 0, none⟩ : Addr).add j = ⟨s, j, none⟩ := by unfold Addr.add; split <;> simp_all
      rw [hadd]
      match j, hv with
      | 0, hv => simp at hv; subst hv; exact h0
      | 1, hv => simp at hv; subst hv; exact h1
      | 2, hv => simp at hv; subst hv; exact h2
      | j + 3, hv => simp at hv)
  cases hq : Try.prog.info? T with
  | none => simp [hq] at hi
  | some i =>
    have hs : i.size = 3 := by simpa [hq] using hi
    have hagg : (isAgg T).run Try.prog w = .ok true w := by
      unfold isAgg
      rw [Sem.run_bind, run_underlying hu w]
      cases d <;> simp_all
    simp only [List.length_cons, List.length_nil, Nat.zero_add, Nat.reduceAdd] at hl
    simp [loadVar, Sem.run_bind, hagg, sizeOf, typeInfo, hq, hs, hl]

theorem results_cell_one6 {P : Program} {fn : Func} {p : Tmp} {ty : TypeId} (h : fn.results = #[.cell p ty]) (tmps : Array Value) (w : World) (s : Nat) (v : Value) (hp : tmps.getD p undef = .pointer (some ⟨s, 0, none⟩)) (hl : (loadVar ty ⟨s, 0, none⟩).run P w = .ok v w) :
    (results fn tmps).run P w = .ok v w := by
  have hp' : tmps[p]?.getD undef = .pointer (some ⟨s, 0, none⟩) := by simpa using hp
  simp [results, h, hp', asAddr, hl]

theorem infoSp : (Try.prog.info? 40).map (·.size) = some 3 := by kernel_rfl
theorem infoSr6 : (Try.prog.info? 37).map (·.size) = some 2 := by kernel_rfl
theorem ret_split {fn : Func} {p : Tmp} (h : fn.results = #[.cell p 40]) (tmps : Array Value) (w : World) (s : Nat) (x0 x1 x2 : Value)
    (hp : tmps.getD p undef = .pointer (some ⟨s, 0, none⟩)) (h0 : w.cell? ⟨s, 0, none⟩ = some x0) (h1 : w.cell? ⟨s, 1, none⟩ = some x1) (h2 : w.cell? ⟨s, 2, none⟩ = some x2) :
    (results fn tmps).run Try.prog w = .ok (.agg #[x0, x1, x2]) w := results_cell_one6 h tmps w s _ hp (loadVar_three Try.underlying40 rfl infoSp w s x0 x1 x2 h0 h1 h2)
theorem ret_splitter {fn : Func} {p : Tmp} (h : fn.results = #[.cell p 37]) (tmps : Array Value) (w : World) (s : Nat) (x0 x1 : Value)
    (hp : tmps.getD p undef = .pointer (some ⟨s, 0, none⟩)) (h0 : w.cell? ⟨s, 0, none⟩ = some x0) (h1 : w.cell? ⟨s, 1, none⟩ = some x1) :
    (results fn tmps).run Try.prog w = .ok (.agg #[x0, x1]) w := results_cell_one6 h tmps w s _ hp (loadVar_pair Try.underlying37 rfl infoSr6 w s 0 x0 x1 h0 h1)

theorem spV_one (b : Nat) : spV b 1 = .agg #[.int .i64 1, .int .i64 0, .int .i64 0] := by
  unfold spV; rw [ct_one b 1 (Nat.le_refl _), mf_one b 1 (Nat.le_refl _)]; rfl

theorem splitter_any (b : Nat) (w : World) :
    Calls Try.prog 18 #[.int .i64 (b : Int)] w fun e w' => ∃ m s, e = .returned (.agg #[.int .i64 (b : Int), .map (some m)]) ∧ Sm w' b m s ∧ s 1 = true ∧ w.heap.size ≤ m ∧ Below w.heap.size w w' := by
  have hmm := @run_makeMap Try.prog
  have HV := Lib.hid (spV_one b)
  have HC0 := Lib.hid (show ((w.alloc (.cells #[.int .i64 0, .map none] 37)).alloc (.map #[] 0)).cell? ⟨w.heap.size, 0, none⟩ = some (.int .i64 0) by simp [go_sem])
  have HC1 := Lib.hid (show ((w.alloc (.cells #[.int .i64 0, .map none] 37)).alloc (.map #[] 0)).cell? ⟨w.heap.size, 1, none⟩ = some (.map none) by simp [go_sem])
  have HFR := Lib.hid (show ∀ j, ((w.alloc (.cells #[.int .i64 0, .map none] 37)).alloc (.map #[] 0)).frozen? ⟨w.heap.size, j, none⟩ = false from fun j => by simp [go_sem])
  have HB0 := Lib.hid (show Below w.heap.size w ((w.alloc (.cells #[.int .i64 0, .map none] 37)).alloc (.map #[] 0)) from (alloc_below w _).alloc (by rw [World.size_alloc]; omega) _)
  obtain ⟨m, hm⟩ : ∃ m, m = w.heap.size + 1 := ⟨_, rfl⟩
  go_enter Try.func18, Try.ntmps18
  go_wp2_with (go_loud (refine wpList_putM rfl _ _ _ (.inr rfl) b (w.heap.size + 1) (fun _ => false) 1 (by first | rfl | simp) rfl (by rw [HV.out]; rfl) (by have := Sm.made (w.alloc (.cells #[.int .i64 0, .map none] 37)) b; rw [World.size_alloc] at this; exact this) (by omega) ?_; intro w2 hs2 hg2; have HS2 := Lib.hid hs2; have HG2 := Lib.hid hg2; have c0 := hg2.cell HC0.out (by first | (simp; done) | (simp; omega)); have c1 := hg2.cell HC1.out (by first | (simp; done) | (simp; omega)); have f0 := (hg2.frozen_far ⟨w.heap.size, 0, none⟩ (by rw [World.size_alloc, World.size_alloc]; show w.heap.size < _; omega) (by simp)).trans (HFR.out 0); have f1 := (hg2.frozen_far ⟨w.heap.size, 1, none⟩ (by rw [World.size_alloc, World.size_alloc]; show w.heap.size < _; omega) (by simp)).trans (HFR.out 1); have HB2 := Lib.hid (HB0.out.grown hg2 HB0.out.size (fun k hk => by cases hk; omega)); clear hs2 hg2))
  obtain ⟨e0, e1⟩ := set_pair (x0 := .int .i64 (b : Int)) (x1 := .map (some (w.heap.size + 1))) c0 c1
  refine bodyPost_ret (ret_splitter rfl _ _ w.heap.size _ _ rfl e0 e1) rfl ?_
  exact ⟨_, _, rfl, (HS2.out.setCell _ _ (by simp)).setCell _ _ (by simp), by simp [adj], by omega, (HB2.out.setCell (Nat.le_refl _) _).setCell (Nat.le_refl _) _⟩

end Go.Proofs.Ytdjemoekkjbkiaa
