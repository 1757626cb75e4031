/-
  The model: texts put in order; the text of a tree, walked.
-/
import Derived.Test.YticagncemlnafaaRC
namespace Go.Proofs.Yticagncemlnafaa
open Go.RowKit
set_option linter.unusedVariables false
set_option linter.unusedSimpArgs false
set_option maxRecDepth 100000

theorem addr_addT (g o j : Nat) : (⟨g, o, none⟩ : Addr).add j = ⟨g, o + j, none⟩ := by
  unfold Addr.add
  split <;> simp_all

theorem wpList_appT {w : World} {ops : Array Oper} {rest : List Oper} {o : Oper} {a : Act} {Q : Exit → Act → World → Prop} (hgd : o.guard = none) (s x : Operand)
    (ho : o.op = .call { callee := .builtin .append, args := #[s, x], argTypes := #[78, 78] })
    (B : Nat) (v u : Value) (xs ys : List Txt) (hs : a.eval s = v) (hx : a.eval x = u) (hv : Rt w B v xs) (hu : SrcT w u ys) (hnil : u = .slice none 0 0 ∨ ∃ ad m c, u = .slice (some ad) m c)
    (hlen : xs.length + ys.length ≤ 2000000) (hB : B ≤ w.heap.size)
    (h : ∀ v' w', Rt w' B v' (xs ++ ys) → w.grownBy w' v.ownBlock → Below B w w' → wpList Try.prog ops Q rest (a.put o.dst v') w') : wpList Try.prog ops Q (o :: rest) a w := by
  obtain ⟨i0, hi, hz0, hz1, hz2⟩ := info_parts infoT
  have hbel : ∀ w', w.grownBy w' v.ownBlock → Below B w w' := fun w' hg => (Below.refl _ _).grown hg hB (fun k hk => (Rg.lt hv k hk).1)
  have hv' := hv
  unfold Rt Rg at hv'
  obtain ⟨ad0, c0, rfl, hc⟩ := hu
  rcases hnil with hnil | ⟨ad, m, c, hnil⟩
  · simp only [Value.slice.injEq] at hnil
    obtain ⟨rfl, hy, rfl⟩ := hnil
    have hy' : ys = [] := List.eq_nil_of_length_eq_zero hy
    subst hy'
    refine wpList_append_own_none hgd s x 78 ho B 9 i0 1 Try.underlying78 hi v (xs.map encStr).length _ hs hv' hx ?_
    exact h v w (by simpa using hv) (World.grownBy.refl _ _) (Below.refl _ _)
  · simp only [Value.slice.injEq] at hnil
    obtain ⟨rfl, hm, rfl⟩ := hnil
    refine wpList_append_own w hgd s x 78 ho B 9 i0 (.string ⟨#[]⟩) 1 16 Try.underlying78 hi hz0 hz1 hz2 rfl (by decide) v (xs.map encStr).length _ hs hv' ad ys.length c0 (ys.map encStr) hx (by simp) ?_ (fun q hq => by obtain ⟨z, _, rfl⟩ := List.mem_map.1 hq; rfl) (by rw [List.length_map]; unfold maxLen; omega) (by rw [List.length_map]; omega) hB ?_
    · intro j q hj
      rw [List.getElem?_map] at hj
      cases hyj : ys[j]? with
      | none => rw [hyj] at hj; cases hj
      | some z =>
        rw [hyj] at hj
        simp only [Option.map_some, Option.some.injEq] at hj
        subst hj
        rcases hc with hc | ⟨b, o', hb, _, _, hcell⟩
        · rw [hc] at hyj; simp at hyj
        · simp only [Option.some.injEq] at hb
          subst hb
          rw [addr_addT]
          exact hcell j z hyj
    · intro v' w' h2 h3 _
      refine h v' w' ?_ h3 (hbel w' h3)
      unfold Rt Rg
      rw [List.length_map, List.length_append, List.map_append]
      rw [List.length_map] at h2
      exact h2

theorem Rt.take {w : World} {B g n cap : Nat} {ss : List Txt} (h : Rt w B (.slice (some ⟨g, 0, none⟩) n cap) ss) (k : Nat) (c : Nat) (hk : k ≤ ss.length) (hc : k ≤ c) : SrcT w (.slice (some ⟨g, 0, none⟩) k c) (ss.take k) := by
  obtain ⟨_, _, hg, hcap, _, hcell, _⟩ := Rg.at h
  refine ⟨some ⟨g, 0, none⟩, c, by rw [List.length_take, Nat.min_eq_left hk], .inr ⟨g, 0, rfl, hg, by rw [List.length_take]; omega, fun j x hx => ?_⟩⟩
  obtain ⟨h1, h2⟩ := List.getElem?_eq_some_iff.1 hx
  rw [List.length_take] at h1
  rw [List.getElem_take] at h2
  rw [Nat.zero_add, hcell j (by rw [List.length_map]; omega), List.getElem_map, h2]

theorem Rt.drop {w : World} {B g n cap : Nat} {ss : List Txt} (h : Rt w B (.slice (some ⟨g, 0, none⟩) n cap) ss) (k c o m : Nat) (hk : k ≤ ss.length) (ho : k < ss.length → o = k) (hm : m = ss.length - k) (hc : m ≤ c) : SrcT w (.slice (some ⟨g, o, none⟩) m c) (ss.drop k) := by
  obtain ⟨_, _, hg, hcap, _, hcell, _⟩ := Rg.at h
  refine ⟨some ⟨g, o, none⟩, c, by rw [List.length_drop, hm], ?_⟩
  by_cases hkl : k < ss.length
  · obtain rfl := ho hkl
    refine .inr ⟨g, o, rfl, hg, by rw [List.length_drop]; omega, fun j x hx => ?_⟩
    rw [List.getElem?_drop] at hx
    obtain ⟨h1, h2⟩ := List.getElem?_eq_some_iff.1 hx
    rw [hcell (o + j) (by rw [List.length_map]; omega), List.getElem_map, h2]
  · left
    exact List.drop_eq_nil_iff.2 (by omega)

theorem rt_empty (w : World) : Rt (w.alloc (.cells #[] 9)) w.heap.size (.slice (some ⟨w.heap.size, 0, none⟩) 0 0) [] :=
  World.ownsRow_lit (e := 9) (size := 1) (base := w.heap.size) w #[] 0 (Nat.le_refl _) (by unfold maxLen; omega) rfl

theorem leB_leq (x y : Txt) : (Op.bytesLess x y || x == y) = leB x y := by
  rw [Proofs.bytesLess_eq]
  unfold leB
  rw [Bool.eq_iff_iff]
  simp only [Bool.or_eq_true, decide_eq_true_eq, beq_iff_eq]
  constructor
  · rintro (h | rfl)
    · exact List.le_of_lt h
    · exact List.le_refl _
  · intro h
    by_cases e : x = y
    · exact .inr e
    · left
      by_cases hxy : x < y
      · exact hxy
      · exact absurd (List.le_antisymm h (List.not_lt.1 hxy)) e

theorem insT {out : List Txt} {x : Txt} {k : Nat} (hk : k ≤ out.length) (hs : out.Pairwise (fun a b => leB a b = true)) (h1 : ∀ j (hj : j < out.length), j < k → leB out[j] x = true) (h2 : ∀ (h : k < out.length), leB x out[k] = true) :
    (out.take k ++ [x] ++ out.drop k).Pairwise (fun a b => leB a b = true) := by
  have tr : ∀ a b c : Txt, leB a b = true → leB b c = true → leB a c = true := fun a b c h1 h2 => by simp only [leB, decide_eq_true_eq] at *; exact List.le_trans h1 h2
  have hs' : (out.take k ++ out.drop k).Pairwise (fun a b => leB a b = true) := by rw [List.take_append_drop]; exact hs
  rw [List.pairwise_append] at hs'
  obtain ⟨ha, hb, hc⟩ := hs'
  have hx : ∀ a ∈ out.take k, leB a x = true := by
    intro a ha
    obtain ⟨j, hj, rfl⟩ := List.getElem_of_mem ha
    have hj' : j < k ∧ j < out.length := by simp at hj; omega
    rw [List.getElem_take]
    exact h1 j hj'.2 hj'.1
  have hy : ∀ a ∈ out.drop k, leB x a = true := by
    intro a ha
    have hlt : k < out.length := by
      have := List.length_pos_of_mem ha
      simp at this
      omega
    rw [List.drop_eq_getElem_cons hlt] at ha hb
    rw [List.pairwise_cons] at hb
    rcases List.mem_cons.1 ha with rfl | ha
    · exact h2 hlt
    · exact tr _ _ _ (h2 hlt) (hb.1 a ha)
  rw [List.append_assoc, List.pairwise_append]
  refine ⟨ha, ?_, ?_⟩
  · rw [List.singleton_append, List.pairwise_cons]
    exact ⟨hy, hb⟩
  · intro a ha2 b hb2
    rw [List.singleton_append, List.mem_cons] at hb2
    rcases hb2 with rfl | hb2
    · exact hx a ha2
    · exact hc a ha2 b hb2

theorem insT_perm (out : List Txt) (x : Txt) (k : Nat) : (out.take k ++ [x] ++ out.drop k).Perm (x :: out) := by
  rw [List.append_assoc, List.singleton_append]
  refine List.perm_middle.trans ?_
  rw [List.take_append_drop]

theorem leB_no {x y : Txt} (h : leB x y = false) : leB y x = true := by
  simp only [leB, decide_eq_false_iff_not, decide_eq_true_eq] at *
  exact (List.le_total y x).resolve_right h

end Go.Proofs.Yticagncemlnafaa
