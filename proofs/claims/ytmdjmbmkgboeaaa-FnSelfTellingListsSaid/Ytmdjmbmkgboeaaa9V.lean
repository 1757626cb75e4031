/-
  Lists that tell themselves: the program's search, whose lists go on in each other's room, and the model's (written by wip/tools/gen_9v.py).
-/
import Derived.Test.Ytmdjmbmkgboeaaa9U
import Derived.Test.Ytmdjmbmkgboeaaa9R
import Derived.Deep.AppendLies
import Derived.Deep.DeepAppendRoom
namespace Go.Proofs.Ytmdjmbmkgboeaaa
open Go.RowKit
set_option linter.unusedVariables false
set_option linter.unusedSimpArgs false
set_option maxRecDepth 100000

theorem LLi.und {w : World} {B : Nat} {v : Value} {vs : List Value} {ls : List (List Int)} (h : LLi w B v vs ls) : Und w.heap.size v vs :=
  ⟨fun k hk => (h.row.lt k hk).2, fun i u hu k hk => by obtain ⟨l, _, hr⟩ := h.rd hu; exact (hr.lt k hk).2⟩
theorem LLi.one' {w : World} {B : Nat} {v u : Value} {vs : List Value} {ls : List (List Int)} (h : LLi w B v vs ls) (hu : u ∈ vs) : u.oneCell' = true := by
  obtain ⟨i, hi, rfl⟩ := List.getElem_of_mem hu
  obtain ⟨l, _, hr⟩ := h.rd (i := i) (u := vs[i]) (by simp [hi])
  obtain ⟨a, c, hv⟩ := hr.sl.len
  rw [hv]; rfl
theorem LLi.append {w w' : World} {B C : Nat} {v v' u : Value} {vs us : List Value} {ls ms : List (List Int)} (h : LLi w B v vs ls) (h2 : LLi w C u us ms) (hC : B ≤ C) (ha : Und C v vs)
    (hr : Rg 24 w' B v' (vs ++ us)) (hg : w.grownBy w' v.ownBlock) : LLi w' B v' (vs ++ us) (ls ++ ms) := by
  refine ⟨hr, by simp [h.len, h2.len], fun i z m hz hm => ?_, fun i j z y hij hz hy => ?_⟩
  · by_cases hi : i < vs.length
    · rw [List.getElem?_append_left hi] at hz
      rw [List.getElem?_append_left (by rw [← h.len]; exact hi)] at hm
      have := h.at' i z m hz hm
      exact this.grown hg (rd_not_row this h.row)
    · rw [List.getElem?_append_right (by omega)] at hz
      rw [List.getElem?_append_right (by rw [← h.len]; omega), ← h.len] at hm
      have := (h2.at' _ z m hz hm).mono hC
      exact this.grown hg (rd_not_row this h.row)
  · by_cases hj : j < vs.length
    · rw [List.getElem?_append_left hj] at hy
      rw [List.getElem?_append_left (by omega)] at hz
      exact h.apart i j z y hij hz hy
    · rw [List.getElem?_append_right (by omega)] at hy
      by_cases hi : i < vs.length
      · rw [List.getElem?_append_left hi] at hz
        cases hq : z.ownBlock with
        | none => exact .inl rfl
        | some k =>
          right
          intro e
          obtain ⟨l, _, hr2⟩ := h2.rd hy
          have h3 := (hr2.lt k e.symm).1
          have h4 := ha.2 i z hz k hq
          omega
      · rw [List.getElem?_append_right (by omega)] at hz
        exact h2.apart _ _ z y (by omega) hz hy

theorem Und.mono {C D : Nat} {v : Value} {vs : List Value} (h : Und C v vs) (hD : C ≤ D) : Und D v vs := ⟨fun k hk => Nat.lt_of_lt_of_le (h.1 k hk) hD, fun i u hu k hk => Nat.lt_of_lt_of_le (h.2 i u hu k hk) hD⟩

theorem grown_of_below {w w' : World} (h : Below w.heap.size w w') (row : Option Nat) : w.grownBy w' row := ⟨h.os, h.tape, h.output, h.size, fun k hk _ => h.block k hk⟩
theorem grown_allocV (w : World) (o : Obj) (row : Option Nat) : w.grownBy (w.alloc o) row := grown_of_below (alloc_below w o) row
theorem grown_any {w w' : World} (h : w.grownBy w' none) (row : Option Nat) : w.grownBy w' row := ⟨h.os, h.tape, h.output, h.size, fun k hk _ => h.block k hk (by simp)⟩

/-- An append that tells what becomes of the elder slice. -/
theorem wpList_appB {w : World} {ops : Array Oper} {rest : List Oper} {o : Oper} {a : Act} {Q : Exit → Act → World → Prop} (hgd : o.guard = none) (s x : Operand)
    (ho : o.op = .call { callee := .builtin .append, args := #[s, x], argTypes := #[24, 24] })
    (B q : Nat) (v : Value) (xs : List Int) (d : Int) (hs : a.eval s = v) (hx : a.eval x = .slice (some ⟨q, 0, none⟩) 1 1) (hv : Rd w B v xs) (hq : w.cell? ⟨q, 0, none⟩ = some (.int .i64 d))
    (hlen : xs.length ≤ 1000000) (hB : B ≤ w.heap.size)
    (h : ∀ g cap w', Rd w' B (.slice (some ⟨g, 0, none⟩) (xs.length + 1) cap) (xs ++ [d]) → Rd w' B v xs → w.grownBy w' v.ownBlock →
      (v = .slice (some ⟨g, 0, none⟩) xs.length cap ∨ (w.heap.size ≤ g ∧ w.grownBy w' none)) → wpList Try.prog ops Q rest (a.put o.dst (.slice (some ⟨g, 0, none⟩) (xs.length + 1) cap)) w') : wpList Try.prog ops Q (o :: rest) a w := by
  obtain ⟨i0, hi, hz0, hz2, hz3⟩ := info_parts info3
  have hnews : ∀ j u, ([.int .i64 d] : List Value)[j]? = some u → w.cell? ((⟨q, 0, none⟩ : Addr).add j) = some u := by
    intro j u hj
    rw [addr_add, Nat.zero_add]
    match j, hj with
    | 0, hj => simp at hj; subst hj; exact hq
    | j + 1, hj => simp at hj
  have hone : ∀ u ∈ ([.int .i64 d] : List Value), u.oneCell' = true := by intro u hu; simp at hu; subst hu; rfl
  rcases hv.cases with ⟨rfl, rfl⟩ | ⟨g0, cap0, rfl, hg0, hg1, hle, hm, _, _⟩
  · refine wpList_append_lies w hgd s x 24 ho B 3 i0 (.int .i64 0) 1 8 Try.underlying24 hi hz0 hz2 hz3 rfl (by decide) _ 0 _ hs hv ⟨q, 0, none⟩ 1 1 [.int .i64 d] hx rfl hnews hone (by omega) (by unfold maxLen; omega) (by omega) hB w.heap.size rfl ?_
    intro g cap w' h2 h3 h4 _
    have hgn : w.grownBy w' none := h3
    rcases h4 with h4 | h4
    · cases h4
    · refine h g cap w' ?_ (Rd.nil _ _) hgn (.inr ⟨by omega, hgn⟩)
      unfold Rd
      rw [List.length_append, List.map_append]
      exact h2
  · by_cases hroom : xs.length + 1 ≤ cap0
    · refine wpList_append_own_spare w hgd s x 24 ho B 3 i0 1 Try.underlying24 hi hz2 g0 xs.length cap0 _ hs hv ⟨q, 0, none⟩ 1 1 [.int .i64 d] hx rfl hnews hone hroom ?_
      intro w' h2 h3
      have hr : Rd w' B (.slice (some ⟨g0, 0, none⟩) (xs.length + 1) cap0) (xs ++ [d]) := by
        unfold Rd
        rw [List.length_append, List.map_append]
        exact h2
      have hr2 := hr.take xs.length (by simp)
      rw [List.take_left' rfl] at hr2
      exact h g0 cap0 w' hr hr2 h3 (.inl rfl)
    · refine wpList_plain hgd fun K hK => ?_
      have holds : ∀ j u, (xs.map (Value.int .i64))[j]? = some u → w.cell? ((⟨g0, 0, none⟩ : Addr).add j) = some u := World.ownsRow.cells (g := g0) hv rfl
      have hr := run_append_grow (P := Try.prog) w 24 o.type 3 i0 (.int .i64 0) Try.underlying24 hi hz0 ⟨g0, 0, none⟩ xs.length cap0 (xs.map (Value.int .i64)) (by rw [hz2]; simp) holds ⟨q, 0, none⟩ 1 1 [.int .i64 d] (by rw [hz2]; rfl) hnews (by omega) (by omega) (by rw [hz3]; exact growslice_fits (by omega) (by omega))
      have hge := grownCap_ge w (xs.length + 1) cap0 3
      have hcm := grownCap_le_maxLen w (xs.length + 1) cap0 3 (by unfold maxLen; omega)
      unfold Oper.wp execOp
      simp only [ho, resolve, invoke, builtin, Sem.run_bind, Sem.run_pure, Result.andThen_ok, List.map_toArray, List.map_cons, List.map_nil, hs, hx, hr]
      have hgr : w.grownBy (w.drew.alloc (.cells ((xs.map (Value.int .i64)).toArray ++ ([.int .i64 d] : List Value).toArray ++ Builtin.zeroCells (Value.int .i64 0).cells (grownCap w (xs.length + 1) cap0 3 - (xs.length + 1))) 3)) none :=
        ⟨rfl, rfl, rfl, by simp, fun k hk _ => heap_alloc_old w.drew _ hk⟩
      refine hK _ _ (h w.heap.size _ _ ?_ (hv.grown hgr (.inr (by simp [Value.ownBlock]))) (grown_any hgr _) (.inr ⟨Nat.le_refl _, hgr⟩))
      refine ⟨by simp, .inr ⟨w.heap.size, _, _, by simp, hB, heap_alloc_new w.drew _, by simp; exact hge, hcm, ?_, ?_⟩⟩
      · have hcz : (Value.int .i64 0).cells.size = 1 := rfl
        simp only [Array.size_append, List.size_toArray, size_zeroCells, List.length_map, List.length_cons, List.length_nil, hcz]
        omega
      · have e : ∀ zs : List Value, xs.map (Value.int .i64) ++ (Value.int .i64 d :: zs) = (xs.map (Value.int .i64) ++ [Value.int .i64 d]) ++ zs := fun zs => by simp
        simp only [Array.toList_append, List.toList_toArray, List.append_assoc, List.length_append, List.length_cons, List.length_nil, Nat.mul_one, List.map_append, List.map_cons, List.map_nil, List.cons_append, List.nil_append]
        rw [e, List.take_left' (by simp)]

end Go.Proofs.Ytmdjmbmkgboeaaa
