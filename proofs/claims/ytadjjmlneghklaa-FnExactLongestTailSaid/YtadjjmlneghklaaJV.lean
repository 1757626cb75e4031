/-
  Slices of words in arrays of the call's own; the program's run of a word.
-/
import Derived.Test.YtadjjmlneghklaaJT
import Derived.Test.YtadjjmlneghklaaJU
namespace Go.Proofs.Ytadjjmlneghklaa
open Go.RowKit
set_option linter.unusedVariables false
set_option linter.unusedSimpArgs false
set_option maxRecDepth 100000

/-- The cells of n words. -/
def wcs (n : Nat) (F : Nat → List Int) : List Value := (List.range n).flatMap fun j => (dw (F j)).toList
theorem wcs_zero (F : Nat → List Int) : wcs 0 F = [] := rfl
theorem wcs_succ (n : Nat) (F : Nat → List Int) : wcs (n + 1) F = wcs n F ++ (dw (F n)).toList := by unfold wcs; rw [List.range_succ, List.flatMap_append]; simp
theorem wcs_len {F : Nat → List Int} (h : ∀ j, (F j).length ≤ 8) : ∀ n, (wcs n F).length = n * 8
  | 0 => rfl
  | n + 1 => by rw [wcs_succ, List.length_append, wcs_len h n, Array.length_toList, dw_size (h n)]; omega
theorem dw_at {xs : List Int} (h : xs.length ≤ 8) (i : Nat) (hi : i < 8) : (dw xs).toList[i]? = some (.int .i64 (xs.getD i 0)) := by
  rw [dw_lit h]
  match i, hi with
  | 0, _ => rfl
  | 1, _ => rfl
  | 2, _ => rfl
  | 3, _ => rfl
  | 4, _ => rfl
  | 5, _ => rfl
  | 6, _ => rfl
  | 7, _ => rfl
  | i + 8, h => omega
theorem wcs_at {F : Nat → List Int} (h : ∀ j, (F j).length ≤ 8) : ∀ (n j i : Nat), j < n → i < 8 → (wcs n F)[j * 8 + i]? = some (.int .i64 ((F j).getD i 0))
  | 0, j, i, hj, _ => by omega
  | n + 1, j, i, hj, hi => by
    rw [wcs_succ]
    by_cases e : j = n
    · subst e
      rw [List.getElem?_append_right (by rw [wcs_len h]; omega), wcs_len h, show j * 8 + i - j * 8 = i by omega]
      exact dw_at (h j) i hi
    · rw [List.getElem?_append_left (by rw [wcs_len h]; omega)]
      exact wcs_at h n j i (by omega) hi

/-- A slice of n words in arrays that the call owns. -/
def Ww (w : World) (B : Nat) (v : Value) (n : Nat) (F : Nat → List Int) : Prop := w.ownsRow B 65 8 v n (wcs n F)
theorem Ww.nil (w : World) (B : Nat) (F : Nat → List Int) : Ww w B (.slice none 0 0) 0 F := World.ownsRow_nil w B _ _
theorem Ww.mono {w : World} {B C n : Nat} {v : Value} {F : Nat → List Int} (h : Ww w B v n F) (hC : C ≤ B) : Ww w C v n F := by
  refine ⟨h.1, ?_⟩
  rcases h.2 with h2 | ⟨g, cap, cur, hv, hg, r⟩
  · exact .inl h2
  · exact .inr ⟨g, cap, cur, hv, Nat.le_trans hC hg, r⟩
theorem Ww.lt {w : World} {B n : Nat} {v : Value} {F : Nat → List Int} (h : Ww w B v n F) : ∀ k, v.ownBlock = some k → B ≤ k ∧ k < w.heap.size := World.ownsRow.lt h
theorem Ww.keep {w w' : World} {B n : Nat} {v : Value} {F : Nat → List Int} (h : Ww w B v n F) (hb : Below w.heap.size w w') : Ww w' B v n F := by
  refine ⟨h.1, ?_⟩
  rcases h.2 with h2 | ⟨g, cap, cur, hv, hg, hh, r⟩
  · exact .inl h2
  · exact .inr ⟨g, cap, cur, hv, hg, by rw [hb.block g (Array.getElem?_eq_some_iff.1 hh).1]; exact hh, r⟩
theorem Ww.alloc {w : World} {B n : Nat} {v : Value} {F : Nat → List Int} (h : Ww w B v n F) (o : Obj) : Ww (w.alloc o) B v n F := World.ownsRow.alloc h o
theorem Ww.drew {w : World} {B n : Nat} {v : Value} {F : Nat → List Int} (h : Ww w B v n F) : Ww w.drew B v n F := h
theorem Ww.grown {w w' : World} {B n : Nat} {v : Value} {F : Nat → List Int} {row : Option Nat} (h : Ww w B v n F) (hg : w.grownBy w' row) (hne : v.ownBlock = none ∨ v.ownBlock ≠ row) : Ww w' B v n F := World.ownsRow.kept h hg hne
theorem Ww.wc {w : World} {B n g off m cap : Nat} {F : Nat → List Int} (h : Ww w B (.slice (some ⟨g, off, none⟩) m cap) n F) (hF : ∀ j, (F j).length ≤ 8) : off = 0 ∧ m = n ∧ WC w g 0 n F ∧ n ≤ cap ∧ cap ≤ maxLen := by
  rcases h.2 with ⟨h1, _⟩ | ⟨g', cap', cur, hv, hg, hh, hn, hm, hc, ht⟩
  · simp at h1
  · simp only [Value.slice.injEq, Option.some.injEq, Addr.mk.injEq, and_true] at hv
    obtain ⟨⟨rfl, rfl⟩, rfl, rfl⟩ := hv
    refine ⟨rfl, rfl, fun j hj i hi => ?_, hn, hm⟩
    rw [cell_of_row _ _ _ _ _ _ hh, Nat.zero_add]
    have h2 := wcs_at hF m j i hj hi
    rw [← ht, List.getElem?_take, if_pos (by omega)] at h2
    simpa using h2
theorem Ww.shape {w : World} {B n : Nat} {v : Value} {F : Nat → List Int} (h : Ww w B v n F) : (v = .slice none 0 0 ∧ n = 0) ∨ ∃ g cap, v = .slice (some ⟨g, 0, none⟩) n cap := by
  rcases h.2 with h1 | ⟨g', cap', cur, hv, _⟩
  · exact .inl h1
  · exact .inr ⟨g', cap', hv⟩
theorem Ww.src {w : World} {B n : Nat} {v : Value} {F : Nat → List Int} (h : Ww w B v n F) (hF : ∀ j, (F j).length ≤ 8) : SrcW w v n F := by
  rcases h.shape with h1 | ⟨g, cap, rfl⟩
  · exact .inl h1
  · exact .inr ⟨g, 0, cap, rfl, (h.wc hF).2.2.1⟩
theorem Ww.lenOf {w : World} {B n : Nat} {v : Value} {F : Nat → List Int} (h : Ww w B v n F) : ∃ a cap, v = .slice a n cap := by
  rcases h.shape with ⟨rfl, rfl⟩ | ⟨g, cap, rfl⟩
  · exact ⟨_, _, rfl⟩
  · exact ⟨_, _, rfl⟩

theorem infoW : (Try.prog.info? 65).map (fun i => (i.zero, i.size, i.bytes)) = some (some (.agg #[.int .i64 0, .int .i64 0, .int .i64 0, .int .i64 0, .int .i64 0, .int .i64 0, .int .i64 0, .int .i64 0]), 8, 64) := by kernel_rfl

theorem one_of_dw {xs : List Int} {u : Value} (h : u ∈ (dw xs).toList) : u.oneCell' = true :=
  (Array.all_eq_true_iff_forall_mem.1 (one_dw xs)) u (by simpa using h)
theorem one_of_wcs {n : Nat} {F : Nat → List Int} {u : Value} (h : u ∈ wcs n F) : u.oneCell' = true := by
  unfold wcs at h
  rw [List.mem_flatMap] at h
  obtain ⟨j, _, h⟩ := h
  exact one_of_dw h

/-- Words behind words. -/
theorem wpList_appW {w : World} {ops : Array Oper} {rest : List Oper} {o : Oper} {a : Act} {Q : Exit → Act → World → Prop} (hgd : o.guard = none) (s x : Operand)
    (ho : o.op = .call { callee := .builtin .append, args := #[s, x], argTypes := #[73, 73] })
    (B : Nat) (v u : Value) (n m : Nat) (F G : Nat → List Int) (hs : a.eval s = v) (hx : a.eval x = u) (hv : Ww w B v n F) (hu : SrcW w u m G) (hG : ∀ j, (G j).length ≤ 8)
    (hlen : n + m ≤ 1000000) (hB : B ≤ w.heap.size)
    (h : ∀ v' w', w'.ownsRow B 65 8 v' (n + m) (wcs n F ++ wcs m G) → w.grownBy w' v.ownBlock → Below B w w' → wpList Try.prog ops Q rest (a.put o.dst v') w') : wpList Try.prog ops Q (o :: rest) a w := by
  obtain ⟨i0, hi, hz0, hz1, hz2⟩ := info_parts infoW
  have hbel : ∀ w', w.grownBy w' v.ownBlock → Below B w w' := fun w' hg => (Below.refl _ _).grown hg hB (fun k hk => (hv.lt k hk).1)
  rcases hu with ⟨rfl, rfl⟩ | ⟨g, off, cap, rfl, hc⟩
  · refine wpList_append_own_none hgd s x 73 ho B 65 i0 8 Try.underlying73 hi v n _ hs hv hx ?_
    exact h v w (by rw [wcs_zero, List.append_nil]; exact hv) (World.grownBy.refl _ _) (Below.refl _ _)
  · refine wpList_append_own w hgd s x 73 ho B 65 i0 _ 8 64 Try.underlying73 hi hz0 hz1 hz2 rfl (by decide) v n _ hs hv ⟨g, off, none⟩ m cap (wcs m G) hx (wcs_len hG m) ?_ (fun u hu => one_of_wcs hu) (by unfold maxLen; omega) (by omega) hB ?_
    · intro j q hj
      have hj' : j < m * 8 := by have := (List.getElem?_eq_some_iff.1 hj).1; rwa [wcs_len hG] at this
      have h1 := hc (j / 8) (by omega) (j % 8) (by omega)
      have h2 := wcs_at hG m (j / 8) (j % 8) (by omega) (by omega)
      rw [show j / 8 * 8 + j % 8 = j by omega] at h2
      rw [h2] at hj
      rw [addr_add, show off + j = off + j / 8 * 8 + j % 8 by omega, h1, ← hj]
    · intro v' w' h2 h3 _
      exact h v' w' h2 h3 (hbel w' h3)

theorem setRow_grown (w : World) (g : Nat) (cs : Array Value) : w.grownBy (w.setRow g cs) (some g) :=
  ⟨rfl, rfl, rfl, by simp, fun k hk hne => setRow_other w g k cs (fun e => hne (by rw [e]))⟩

def lenW : Value → Nat
  | .slice _ n _ => n
  | _ => 0

end Go.Proofs.Ytadjjmlneghklaa
