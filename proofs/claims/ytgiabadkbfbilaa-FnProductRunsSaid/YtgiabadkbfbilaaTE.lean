/-
  Who may ask about digits added backwards: the model's and the program's tests; the program's places.
-/
import Derived.Test.YtgiabadkbfbilaaTB
import Derived.Test.YtgiabadkbfbilaaTC
import Derived.Test.YtgiabadkbfbilaaPW
import Derived.BigRegion
import Derived.Deep.RegionHeld3
import Derived.Handy
namespace Go.Proofs.Ytgiabadkbfbilaa
open Go.RowKit
set_option linter.unusedVariables false
set_option linter.unusedSimpArgs false
set_option maxRecDepth 100000

theorem okR_no_base {b : Int} {xs : List Int} (h : ¬ (2 ≤ b ∧ b ≤ 16)) : okR b xs = false := by unfold okR; rw [decide_eq_false h]; rfl
theorem okR_no_len {b : Int} {xs : List Int} (h : ¬ (1 ≤ xs.length ∧ xs.length ≤ 40)) : okR b xs = false := by
  unfold okR
  by_cases h1 : xs.length ≤ 40
  · have h2 : xs.length = 0 := by omega
    have h3 := List.eq_nil_of_length_eq_zero h2
    subst h3
    simp [areD]
  · rw [decide_eq_false h1]; simp
theorem okR_no_all {b : Int} {xs : List Int} (h : allIn 0 (b - 1) xs = false) : okR b xs = false := by unfold okR areD; rw [h]; simp
theorem okR_rest {b : Int} {xs : List Int} (h1 : 2 ≤ b ∧ b ≤ 16) (h2 : 1 ≤ xs.length ∧ xs.length ≤ 40) (h3 : allIn 0 (b - 1) xs = true) : okR b xs = (decide ((0:Int) < xs[0]'(by omega)) || decide (xs.length = 1)) := by
  have h4 := (allIn_iff _ _ _).1 h3 _ (List.getElem_mem (show 0 < xs.length by omega))
  unfold okR areD
  rw [decide_eq_true h1, decide_eq_true h2.2, h3, decide_eq_true (show xs.length ≠ 0 by omega)]
  cases xs with
  | nil => simp at h2
  | cons a t =>
    simp at h4
    simp only [Bool.true_and, Bool.and_true, List.headD_cons, List.getElem_cons_zero]
    by_cases h5 : 0 < a
    · have h6 : a ≠ 0 := by omega
      simp [h5, h6]
    · have h6 : a = 0 := by omega
      simp [h6]

theorem okR_areD {b : Int} {xs : List Int} (h1 : 2 ≤ b ∧ b ≤ 16) (h2 : xs.length ≤ 40) : okR b xs = areD b xs := by
  unfold okR; rw [decide_eq_true h1, decide_eq_true h2]; simp

theorem Below.keeps_cell {w w' : World} (h : Below w.heap.size w w') {a : Addr} {u : Value} (hc : w.cell? a = some u) : w'.cell? a = some u := by
  have hlt : a.block < w.heap.size := by
    by_cases hl : a.block < w.heap.size
    · exact hl
    · unfold World.cell? at hc
      simp [Array.getElem?_eq_none (Nat.le_of_not_lt hl)] at hc
  rw [h.cell (p := a) hlt]
  exact hc
theorem addr_add (g o j : Nat) : (⟨g, o, none⟩ : Addr).add j = ⟨g, o + j, none⟩ := by
  unfold Addr.add
  split <;> simp_all
theorem alloc_below (w : World) (o : Obj) : Below w.heap.size w (w.alloc o) := (Below.refl _ _).alloc (Nat.le_refl _) o

theorem clone_sh (g n cap : Nat) (xs : List Int) (w : World) (B : Nat) (h : Rd w B (.slice (some ⟨g, 0, none⟩) n cap) xs) (h1 : 1 ≤ xs.length) (hl : xs.length ≤ 2000000) :
    Calls Try.prog 134 #[.slice (some ⟨g, 0, none⟩) n cap] w fun e w' => ∃ g' cap', e = .returned (.slice (some ⟨g', 0, none⟩) xs.length cap') ∧ Rd w' w.heap.size (.slice (some ⟨g', 0, none⟩) xs.length cap') xs ∧ Below w.heap.size w w' := by
  refine (clone_any g n cap xs w B h hl).mono ?_
  rintro e w' ⟨u, rfl, hr, hb⟩
  rcases hr.cases with ⟨_, hx⟩ | ⟨g', cap', rfl, _⟩
  · rw [hx] at h1; simp at h1
  · exact ⟨g', cap', rfl, hr, hb⟩

/-- A number by its digits. -/
abbrev lng (u : Value) (b : Int) : Value := .agg #[u, .int .i64 b]

theorem loadVar_pair {T : TypeId} {d : TypeDesc} (hu : Try.prog.underlying T = some d) (hd : (match d with | .struct _ | .array _ _ => true | _ => false) = true) (hi : (Try.prog.info? T).map (·.size) = some 2)
    (w : World) (s off : Nat) (x0 x1 : Value) (h0 : w.cell? ⟨s, off, none⟩ = some x0) (h1 : w.cell? ⟨s, off + 1, none⟩ = some x1) : (loadVar T ⟨s, off, none⟩).run Try.prog w = .ok (.agg #[x0, x1]) w := by
  have hl : (loadCells ⟨s, off, none⟩ ([x0, x1] : List Value).length).run Try.prog w = .ok ([x0, x1] : List Value).toArray w :=
    run_loadCells_list (P := Try.prog) w ⟨s, off, none⟩ [x0, x1] (fun j v hv => by
      have hadd : (⟨s, off, none⟩ : Addr).add j = ⟨s, off + j, none⟩ := by unfold Addr.add; split <;> simp_all
      rw [hadd]
      match j, hv with
      | 0, hv => simp at hv; subst hv; exact h0
      | 1, hv => simp at hv; subst hv; exact h1
      | j + 2, hv => simp at hv)
  cases hq : Try.prog.info? T with
  | none => simp [hq] at hi
  | some i =>
    have hs : i.size = 2 := by simpa [hq] using hi
    have hagg : (isAgg T).run Try.prog w = .ok true w := by
      unfold isAgg
      rw [Sem.run_bind, run_underlying hu w]
      cases d <;> simp_all
    simp only [List.length_cons, List.length_nil, Nat.zero_add, Nat.reduceAdd] at hl
    simp [loadVar, Sem.run_bind, hagg, sizeOf, typeInfo, hq, hs, hl]

/-- Two cells that are written one behind the other. -/
theorem set_pair {w : World} {s : Nat} {y0 y1 x0 x1 : Value} (h0 : w.cell? ⟨s, 0, none⟩ = some y0) (h1 : w.cell? ⟨s, 1, none⟩ = some y1) :
    ((w.setCell ⟨s, 0, none⟩ x0).setCell ⟨s, 1, none⟩ x1).cell? ⟨s, 0, none⟩ = some x0 ∧ ((w.setCell ⟨s, 0, none⟩ x0).setCell ⟨s, 1, none⟩ x1).cell? ⟨s, 1, none⟩ = some x1 := by
  have hne : (⟨s, 0, none⟩ : Addr) ≠ ⟨s, 1, none⟩ := fun e => by simp at e
  constructor
  · rw [World.cell?_setCell_other _ _ _ _ (Ne.symm hne)]
    exact World.cell?_setCell_same _ _ _ h0
  · exact World.cell?_setCell_same _ _ _ ((World.cell?_setCell_other _ _ _ _ hne).trans h1)

theorem grown_setCell (w : World) (g j : Nat) (u : Value) : w.grownBy (w.setCell ⟨g, j, none⟩ u) (some g) :=
  ⟨rfl, rfl, rfl, by simp, fun k hk hne => by
    simp only [World.setCell, Array.getElem?_modify]
    rw [if_neg (fun e => hne (by rw [e]))]⟩
end Go.Proofs.Ytgiabadkbfbilaa
