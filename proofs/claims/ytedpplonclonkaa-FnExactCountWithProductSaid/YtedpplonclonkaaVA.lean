/-
  The model's increasing lists without repeats.
-/
import Derived.Test.YtedpplonclonkaaR2
import Derived.Test.YtedpplonclonkaaW2
namespace Go.Proofs.Ytedpplonclonkaa
open Go.RowKit
set_option linter.unusedVariables false
set_option linter.unusedSimpArgs false
set_option maxRecDepth 100000

/-- A source of an append. -/
def SrcV (w : World) (u : Value) (ys : List Int) : Prop := (u = .slice none 0 0 ∧ ys = []) ∨ ∃ ad c, u = .slice (some ad) ys.length c ∧ ∀ j (h : j < ys.length), w.cell? (ad.add j) = some (.int .i64 ys[j])

theorem wpList_appV {w : World} {ops : Array Oper} {rest : List Oper} {o : Oper} {a : Act} {Q : Exit → Act → World → Prop} (hgd : o.guard = none) (s x : Operand)
    (ho : o.op = .call { callee := .builtin .append, args := #[s, x], argTypes := #[22, 22] })
    (B : Nat) (v u : Value) (xs ys : List Int) (hs : a.eval s = v) (hx : a.eval x = u) (hv : Rd w B v xs) (hu : SrcV w u ys)
    (hlen : xs.length + ys.length ≤ 17179869184) (hB : B ≤ w.heap.size)
    (h : ∀ v' w', Rd w' B v' (xs ++ ys) → w.grownBy w' v.ownBlock → Below B w w' → wpList Try.prog ops Q rest (a.put o.dst v') w') : wpList Try.prog ops Q (o :: rest) a w := by
  obtain ⟨i0, hi, hz0, hz1, hz2⟩ := info_parts info3
  have hbel : ∀ w', w.grownBy w' v.ownBlock → Below B w w' := fun w' hg => (Below.refl _ _).grown hg hB (fun k hk => (hv.lt k hk).1)
  rcases hu with ⟨rfl, rfl⟩ | ⟨ad, cap, rfl, hc⟩
  · refine wpList_append_own_none hgd s x 22 ho B 3 i0 1 Try.underlying22 hi v xs.length _ hs hv hx ?_
    exact h v w (by simpa using hv) (World.grownBy.refl _ _) (Below.refl _ _)
  · refine wpList_append_own w hgd s x 22 ho B 3 i0 (.int .i64 0) 1 8 Try.underlying22 hi hz0 hz1 hz2 rfl (by decide) v xs.length _ hs hv ad ys.length cap (ys.map (Value.int .i64)) hx (by simp) ?_ (ints_oneCell _ _) (by unfold maxLen; omega) (by omega) hB ?_
    · intro j q hj
      have hj' : j < ys.length := by
        have := (List.getElem?_eq_some_iff.1 hj).1
        simpa using this
      rw [hc j hj', ← hj]
      simp [hj']
    · intro v' w' h2 h3 _
      refine h v' w' ?_ h3 (hbel w' h3)
      unfold Rd
      rw [List.length_append, List.map_append]
      exact h2

theorem addr_addV (g o j : Nat) : (⟨g, o, none⟩ : Addr).add j = ⟨g, o + j, none⟩ := by
  unfold Addr.add
  split <;> simp_all

theorem srcV_drop {w : World} {B g n cap : Nat} {xs : List Int} (h : Rd w B (.slice (some ⟨g, 0, none⟩) n cap) xs) (q c : Nat) (o m : Nat) (hq : q ≤ xs.length) (ho : q < xs.length → o = q) (hm : m = xs.length - q) :
    SrcV w (.slice (some ⟨g, o, none⟩) m c) (xs.drop q) := by
  refine .inr ⟨⟨g, o, none⟩, c, by rw [List.length_drop, hm], fun j hj => ?_⟩
  have hj' : j < xs.length - q := by simpa using hj
  obtain rfl := ho (by omega)
  rw [addr_addV, h.at.2.2.2.2.1 (o + j) (by omega)]
  simp
theorem srcV_take {w : World} {B g n cap : Nat} {xs : List Int} (h : Rd w B (.slice (some ⟨g, 0, none⟩) n cap) xs) (q c : Nat) (hq : q ≤ xs.length) : SrcV w (.slice (some ⟨g, 0, none⟩) q c) (xs.take q) := by
  refine .inr ⟨⟨g, 0, none⟩, c, by rw [List.length_take, Nat.min_eq_left hq], fun j hj => ?_⟩
  have hj' : j < q := by rw [List.length_take] at hj; omega
  rw [addr_addV, Nat.zero_add, h.at.2.2.2.2.1 j (by omega)]
  simp

theorem rd_emptyV (w : World) : Rd (w.alloc (.cells #[] 3)) w.heap.size (.slice (some ⟨w.heap.size, 0, none⟩) 0 0) [] := by
  have := World.ownsRow_lit (e := 3) (size := 1) (base := w.heap.size) w #[] 0 (Nat.le_refl _) (by unfold maxLen; omega) rfl
  exact this

/-- A number laid into an increasing list. -/
theorem putv_rise (xs : List Int) (x : Int) (k : Nat) (hk : k ≤ xs.length) (hs : xs.Pairwise (· < ·)) (h1 : ∀ j (hj : j < xs.length), j < k → xs[j] < x) (h2 : ∀ (h : k < xs.length), x < xs[k]) :
    (xs.take k ++ [x] ++ xs.drop k).Pairwise (· < ·) ∧ ∀ z, z ∈ xs.take k ++ [x] ++ xs.drop k ↔ z ∈ xs ∨ z = x := by
  have hs' : (xs.take k ++ xs.drop k).Pairwise (· < ·) := by rw [List.take_append_drop]; exact hs
  rw [List.pairwise_append] at hs'
  obtain ⟨ha, hb, hc⟩ := hs'
  have hx : ∀ a ∈ xs.take k, a < x := by
    intro a ha
    obtain ⟨j, hj, rfl⟩ := List.getElem_of_mem ha
    have hj' : j < k ∧ j < xs.length := by simp at hj; omega
    rw [List.getElem_take]
    exact h1 j hj'.2 hj'.1
  have hy : ∀ a ∈ xs.drop k, x < a := by
    intro a ha
    have hlt : k < xs.length := by
      have := List.length_pos_of_mem ha
      simp at this
      omega
    rw [drop_cons xs k hlt] at ha hb
    rw [List.pairwise_cons] at hb
    have h3 := h2 hlt
    rcases List.mem_cons.1 ha with rfl | ha
    · exact h3
    · have := hb.1 a ha; omega
  constructor
  · rw [List.append_assoc, List.pairwise_append]
    refine ⟨ha, ?_, ?_⟩
    · rw [List.singleton_append, List.pairwise_cons]
      exact ⟨hy, hb⟩
    · intro a ha2 b hb2
      rw [List.singleton_append, List.mem_cons] at hb2
      rcases hb2 with rfl | hb2
      · exact hx a ha2
      · exact hc a ha2 b hb2
  · intro z
    have : z ∈ xs ↔ z ∈ xs.take k ∨ z ∈ xs.drop k := by rw [← List.mem_append, List.take_append_drop]
    rw [this]
    simp only [List.mem_append, List.mem_singleton]
    constructor
    · rintro ((h | h) | h) <;> simp [h]
    · rintro ((h | h) | h) <;> simp [h]

theorem putv_there (xs : List Int) (x : Int) (k : Nat) (hk : k < xs.length) (he : xs[k] = x) : ∀ z, z ∈ xs ↔ z ∈ xs ∨ z = x := fun z => by
  constructor
  · exact .inl
  · rintro (h | rfl)
    · exact h
    · rw [← he]; exact List.getElem_mem hk

end Go.Proofs.Ytedpplonclonkaa
