/-
  Slices of strings of the call's own; sorted, joined.
-/
import Derived.Test.YticagncemlnafaaQC
import Derived.Test.YticagncemlnafaaS4
import Derived.Sort.OwnSorted
import Derived.Sort.KeysCollected
namespace Go.Proofs.Yticagncemlnafaa
open Go.RowKit
set_option linter.unusedVariables false
set_option linter.unusedSimpArgs false
set_option maxRecDepth 100000

abbrev Txt := List UInt8
/-- A slice of strings of the call's own. -/
abbrev Rt (w : World) (B : Nat) (v : Value) (ss : List Txt) : Prop := Rg 9 w B v (ss.map encStr)

/-- Texts in order. -/
def srtT (ss : List Txt) : List Txt := ss.mergeSort leB
theorem srtT_perm {ss ts : List Txt} (h : ss.Perm ts) : srtT ss = srtT ts := mergeSort_of_perm h
theorem srtT_len (ss : List Txt) : (srtT ss).length = ss.length := by simp [srtT]
theorem srtT_unique {ss ts : List Txt} (hp : ts.Perm ss) (hs : ts.Pairwise (fun a b => leB a b = true)) : ts = srtT ss := by
  have tr : ∀ a b c : List UInt8, leB a b = true → leB b c = true → leB a c = true := fun a b c h1 h2 => by simp only [leB, decide_eq_true_eq] at *; exact List.le_trans h1 h2
  have to : ∀ a b : List UInt8, (leB a b || leB b a) = true := fun a b => by simp only [leB, Bool.or_eq_true, decide_eq_true_eq]; exact List.le_total a b
  refine List.Perm.eq_of_pairwise (le := fun a b => leB a b = true) (fun a b _ _ h1 h2 => ?_) hs (List.pairwise_mergeSort tr to ss) (hp.trans (List.mergeSort_perm ss leB).symm)
  simp only [leB, decide_eq_true_eq] at h1 h2
  exact List.le_antisymm h1 h2

theorem insertionT_nil (w : World) : Calls Try.prog 113 #[.slice none 0 0, .int .i64 0, .int .i64 0] w fun e w' => e = .returned (.tuple #[]) ∧ w = w' := by
  go_enter Try.func113, Try.ntmps113
  go_wp2
  refine wp_loop_rounds 1 ?_
  rw [rounds_succ]
  go_wp2
  go_end0
  exact ⟨rfl, rfl⟩

theorem pdqT_nil (L : Int) (w : World) : Calls Try.prog 107 #[.slice none 0 0, .int .i64 0, .int .i64 0, .int .i64 L] w fun e w' => e = .returned (.tuple #[]) ∧ w = w' := by
  go_enter Try.func107, Try.ntmps107
  go_wp2
  refine wp_loop_rounds 1 ?_
  rw [rounds_succ]
  go_wp2_with (go_at_call 113; refine (insertionT_nil _).mono ?_; rintro e w' ⟨rfl, rfl⟩)
  refine bodyPost_ret (results_none rfl _ _ _) rfl ?_
  exact ⟨rfl, rfl⟩

theorem sortT_nil (w : World) : Calls Try.prog 104 #[.slice none 0 0] w fun e w' => e = .returned (.tuple #[]) ∧ w = w' := by
  go_enter Try.func104, Try.ntmps104
  go_wp2_with (first | (go_at_call 108; refine (len_zero _).mono ?_; rintro e w' ⟨⟨L, rfl⟩, rfl⟩) | (go_at_call 107; refine (pdqT_nil _ _).mono ?_; rintro e w' ⟨rfl, rfl⟩))
  go_end0
  exact ⟨rfl, rfl⟩

theorem sortT_any (v : Value) (ss : List Txt) (B : Nat) (w : World) (h : Rt w B v ss) (hB : B ≤ w.heap.size) (hl : ss.length ≤ 2000000) :
    Calls Try.prog 104 #[v] w fun e w' => e = .returned (.tuple #[]) ∧ Rt w' B v (srtT ss) ∧ Below B w w' := by
  rcases h.2 with ⟨h1, h2⟩ | ⟨g, cap, cur, rfl, hg, hh, hn, hm, hc, ht⟩
  · subst h1
    have hs : ss = [] := by
      have : (ss.map encStr).length = 0 := h2
      rw [List.length_map] at this
      exact List.eq_nil_of_length_eq_zero this
    subst hs
    refine (sortT_nil w).mono ?_
    rintro e w' ⟨rfl, rfl⟩
    exact ⟨rfl, by rw [show srtT [] = [] from by simp [srtT]]; exact h, Below.refl _ _⟩
  · rw [List.length_map] at hn ht ⊢
    rw [Nat.mul_one] at ht
    refine (Try.slices_Sort_string g 0 cap ss w (holds_of_block hh ht) (Array.getElem?_eq_some_iff.1 hh).1 (by omega)).mono ?_
    rintro e w' ⟨rfl, nn, os, rfl⟩
    have hr := ownsRow_sorted (n := nn) (os := os) (ts := srtT ss) (srtT_len ss) hg hh hn hm hc
    refine ⟨rfl, ?_, (Below.refl _ _).grown (grownBy_sorted _) hB (fun k hk => by cases hk; exact hg)⟩
    unfold Rt Rg
    rw [List.length_map, srtT_len]
    exact hr

theorem join_flat : ∀ (ss : List Txt), Lib.join ss [] = ss.flatten
  | [] => rfl
  | x :: r => by
    rw [Lib.join_cons]
    unfold Lib.joinTail
    simp

/-- A source of texts: the whole of a slice, or a part of one. -/
def SrcT (w : World) (u : Value) (ys : List Txt) : Prop := ∃ a c, u = .slice a ys.length c ∧ (ys = [] ∨ ∃ b o, a = some ⟨b, o, none⟩ ∧ b < w.heap.size ∧ ys.length ≤ c ∧ ∀ (j : Nat) (x : Txt), ys[j]? = some x → w.cell? ⟨b, o + j, none⟩ = some (encStr x))

theorem Rt.src {w : World} {B : Nat} {v : Value} {ss : List Txt} (h : Rt w B v ss) : SrcT w v ss := by
  rcases h.cases with ⟨rfl, h2⟩ | ⟨g, cap, rfl⟩
  · have hs : ss = [] := List.map_eq_nil_iff.1 h2
    subst hs
    exact ⟨none, 0, rfl, .inl rfl⟩
  · obtain ⟨_, _, hg, hcap, _, hc, _⟩ := h.at
    rw [List.length_map] at hcap ⊢
    refine ⟨some ⟨g, 0, none⟩, cap, rfl, .inr ⟨g, 0, rfl, hg, hcap, fun j x hx => ?_⟩⟩
    obtain ⟨h1, h2⟩ := List.getElem?_eq_some_iff.1 hx
    rw [Nat.zero_add, hc j (by rw [List.length_map]; exact h1), List.getElem_map, h2]

theorem SrcT.keep {w w' : World} {u : Value} {ys : List Txt} (h : SrcT w u ys) (hb : Below w.heap.size w w') : SrcT w' u ys := by
  obtain ⟨a, c, rfl, h2⟩ := h
  refine ⟨a, c, rfl, ?_⟩
  rcases h2 with h2 | ⟨b, o, rfl, hb2, hc, hx⟩
  · exact .inl h2
  · exact .inr ⟨b, o, rfl, Nat.lt_of_lt_of_le hb2 hb.size, hc, fun j x hj => (hb.cell (p := ⟨b, o + j, none⟩) hb2).trans (hx j x hj)⟩

/-- 'strings.Join(ss, "")'. -/
theorem joinT_any (v : Value) (ss : List Txt) (w : World) (h : SrcT w v ss) (hl : ss.length ≤ 2000000) (hlen : ss.flatten.length ≤ 140737488355328) :
    Calls Try.prog 105 #[v, .string ⟨#[]⟩] w fun e w' => e = .returned (encStr ss.flatten) ∧ Below w.heap.size w w' := by
  obtain ⟨a, c, rfl, h2⟩ := h
  rcases h2 with h2 | ⟨b, o, rfl, hb, hc, hx⟩
  · subst h2
    refine (Try.strings_Join_none a c ⟨#[]⟩ w).mono ?_
    rintro e w' ⟨rfl, rfl⟩
    exact ⟨rfl, Below.refl _ _⟩
  · have hjn : Lib.join ((ss.map fun x => (⟨x.toArray⟩ : ByteArray)).map (·.data.toList)) [] = ss.flatten := by
      rw [List.map_map, show ((·.data.toList) ∘ fun (x : Txt) => (⟨x.toArray⟩ : ByteArray)) = id from rfl, List.map_id, join_flat]
    have := Try.strings_Join b o c (ss.map fun x => (⟨x.toArray⟩ : ByteArray)) ⟨#[]⟩ w (fun j x hj => by
      rw [List.getElem?_map] at hj
      cases hs : ss[j]? with
      | none => rw [hs] at hj; cases hj
      | some y =>
        rw [hs] at hj
        simp only [Option.map_some, Option.some.injEq] at hj
        subst hj
        exact hx j y hs) hb (by rw [List.length_map]; omega) (by rw [List.length_map]; exact hc) (by show (Lib.join _ []).length ≤ _; rw [hjn]; exact hlen)
    rw [List.length_map] at this
    refine this.mono ?_
    rintro e w' ⟨rfl, hb2⟩
    refine ⟨?_, hb2⟩
    show Ending.returned (Value.string ⟨(Lib.join _ []).toArray⟩) = _
    rw [hjn]

end Go.Proofs.Yticagncemlnafaa
