/-
  Sets of numbers below n as maps of the call's own: the operations' laws, for the walk.
-/
import Derived.Test.YtbgnieajeipllaaV1
namespace Go.Proofs.Ytbgnieajeipllaa
open Go.RowKit
open Go.Maps (Keyed IsMap Tidy)
set_option linter.unusedVariables false
set_option linter.unusedSimpArgs false
set_option maxRecDepth 100000

section
variable {w : World} {ops : Array Oper} {rest : List Oper} {o : Oper} {a : Act} {Q : Exit → Act → World → Prop}

/-- 'set[x] = true'. -/
theorem wpList_putS (hg : o.guard = none) (m x v : Operand) (hop : o.op = Op.mapUpdate 66 m x v) (n b : Nat) (s : Nat → Bool) (y : Nat)
    (hm : a.eval m = .map (some b)) (hx : a.eval x = .int .i64 (y : Int)) (hv : a.eval v = .bool true) (hs : St w n b s) (hy : y < n) (hn : n ≤ 1000000000001)
    (h : ∀ w', St w' n b (adj s y true) → w.grownBy w' (some b) → wpList Try.prog ops Q rest (a.put o.dst undef) w') : wpList Try.prog ops Q (o :: rest) a w := by
  obtain ⟨D, hD, hS⟩ := hs
  have hc := cnt_le n s
  refine wpList_mapUpdate_own w hg m x v 66 hop 3 4 kI Try.underlying66 RB b (cnt n s) D hm hD (by unfold maxLen; omega) _ _ (kx y) hx hv (kx_key y (by omega)) (.lit (.bool true)) [] (plainElem_bool Try.underlying4 true) ?_
  intro w' h1 h2
  have h3 := hS.put (hD.tidy kI) hy trivial
  refine h w' ⟨_, ?_, h3⟩ h2
  rw [← h3.size]
  exact tight h1

/-- 'set[x]'. -/
theorem wpList_lookS (hg : o.guard = none) (m x : Operand) (hop : o.op = Op.lookup 66 m x false) (n b : Nat) (s : Nat → Bool) (y : Nat)
    (hm : a.eval m = .map (some b)) (hx : a.eval x = .int .i64 (y : Int)) (hs : St w n b s) (hy : y < n) (hn : n ≤ 1000000000001)
    (h : wpList Try.prog ops Q rest (a.put o.dst (.bool (s y))) w) : wpList Try.prog ops Q (o :: rest) a w := by
  obtain ⟨D, hD, hS⟩ := hs
  refine wpList_plain hg fun K' hK' => ?_
  obtain ⟨v, ps, hrun, hv⟩ := hD.lookup kI Try.underlying66 (zeroB w) (plainElem_bool Try.underlying4 false) (kx_key y (by omega))
  obtain ⟨q, rfl, hq⟩ := rb_inv hv
  have he := hS.at' y hy
  have hq2 := congrArg Prod.fst hq
  simp only at hq2
  rw [he] at hq2
  simp only [DataW.lit.injEq, Lit.bool.injEq] at hq2
  subst hq2
  unfold Oper.wp
  simp [execOp, hop, hm, hx, hrun, Result.andThen]
  exact hK' _ _ h

/-- 'delete(set, x)'. -/
theorem wpList_delS (hg : o.guard = none) (m x : Operand) (hop : o.op = Op.call { callee := Callee.builtin Builtin.delete, args := #[m, x], argTypes := #[66, 3] }) (n b : Nat) (s : Nat → Bool) (y : Nat)
    (hm : a.eval m = .map (some b)) (hx : a.eval x = .int .i64 (y : Int)) (hs : St w n b s) (hy : y < n) (hn : n ≤ 1000000000001)
    (h : ∀ w', St w' n b (adj s y false) → w.grownBy w' (some b) → wpList Try.prog ops Q rest (a.put o.dst (.tuple #[])) w') : wpList Try.prog ops Q (o :: rest) a w := by
  obtain ⟨D, hD, hS⟩ := hs
  refine wpList_delete_own w hg m x 66 3 hop 4 kI Try.underlying66 RB b (cnt n s) D hm hD _ (kx y) hx (kx_key y (by omega)) ?_
  intro w' h1 h2
  have h3 := hS.del (hD.tidy kI) hy trivial
  refine h w' ⟨_, ?_, h3⟩ h2.grown
  rw [← h3.size]
  exact tight h1

/-- 'len(set)'. -/
theorem wpList_lenS (hg : o.guard = none) (m : Operand) (hop : o.op = Op.call { callee := Callee.builtin Builtin.len, args := #[m], argTypes := #[66] }) (n b : Nat) (s : Nat → Bool)
    (hm : a.eval m = .map (some b)) (hs : St w n b s) (h : wpList Try.prog ops Q rest (a.put o.dst (.int .i64 (cnt n s : Nat))) w) : wpList Try.prog ops Q (o :: rest) a w := by
  obtain ⟨D, hD, hS⟩ := hs
  refine wpList_len_own w hg m 66 hop 3 4 Try.underlying66 RB b (cnt n s) D hm hD ?_
  rw [hS.size]
  exact h

/-- A range over the set in block b is under way, its iterator in block r; the numbers in l are still to come. -/
def Ran (w : World) (n b r : Nat) (s l : Nat → Bool) : Prop := ∃ (D : DataW Unit) (left : Lit → Bool) (c : Nat), w.ranges Try.prog 3 RB b r (cnt n s) D left c ∧ SD D n s ∧ (∀ x : Nat, x < n → left (kx x) = l x) ∧ ∀ kl, left kl = true → ∃ x : Nat, x < n ∧ kl = kx x

theorem Ran.st {n b r : Nat} {s l : Nat → Bool} (h : Ran w n b r s l) : St w n b s := by obtain ⟨D, left, c, h1, h2, _⟩ := h; exact ⟨D, h1.owns, h2⟩
theorem Ran.lt {n b r : Nat} {s l : Nat → Bool} (h : Ran w n b r s l) : r < w.heap.size := by obtain ⟨D, left, c, h1, h2, _⟩ := h; exact h1.lt
theorem Ran.kept {w' : World} {n b r : Nat} {s l : Nat → Bool} {row : Option Nat} (h : Ran w n b r s l) (hg : w.grownBy w' row) (hb : some b ≠ row) (hr : some r ≠ row) : Ran w' n b r s l ∧ w'.rangeLeft b r = w.rangeLeft b r := by
  obtain ⟨D, left, c, h1, h2⟩ := h
  have h3 := h1.kept hg hb hr
  exact ⟨⟨D, left, c, h3, h2⟩, by rw [h3.left_eq, h1.left_eq]⟩
theorem Ran.alloc {n b r : Nat} {s l : Nat → Bool} (h : Ran w n b r s l) (o : Obj) : Ran (w.alloc o) n b r s l := (h.kept (World.grownBy_alloc w o none) (by simp) (by simp)).1

/-- 'range set'. -/
theorem wpList_rangeS (hg : o.guard = none) (m : Operand) (hop : o.op = Op.range 66 m) (n b : Nat) (s : Nat → Bool) (hm : a.eval m = .map (some b)) (hs : St w n b s)
    (h : ∀ w', Ran w' n b w.heap.size s s → w.grownBy w' none → w'.heap.size = w.heap.size + 1 → wpList Try.prog ops Q rest (a.put o.dst (.pointer (some ⟨w.heap.size, 0, none⟩))) w') : wpList Try.prog ops Q (o :: rest) a w := by
  obtain ⟨D, hD, hS⟩ := hs
  refine wpList_range_own w hg m 66 hop 3 4 kI Try.underlying66 RB b (cnt n s) D hm hD ?_
  intro w' h1 h2 h3
  exact h w' ⟨D, _, _, h1, hS, hS.has, hS.only⟩ h2 h3

/-- The step of a range. -/
theorem wpList_nextS (hg : o.guard = none) (it : Operand) (hop : o.op = Op.next it false) (n b r : Nat) (s l : Nat → Bool) (hit : a.eval it = .pointer (some ⟨r, 0, none⟩)) (hr : Ran w n b r s l)
    (hDone : (∀ x, x < n → l x = false) → wpList Try.prog ops Q rest (a.put o.dst (.tuple #[.bool false])) w)
    (hMore : ∀ (x : Nat) (w' : World), x < n → l x = true → s x = true → Ran w' n b r s (adj l x false) → w'.rangeLeft b r < w.rangeLeft b r → w.grownBy w' (some r) → w'.heap.size = w.heap.size →
      (Instr.entry (.pointer (some ⟨r, 0, none⟩))).run Try.prog w' = .ok (.tuple #[.int .i64 (x : Int), .bool true]) w' → wpList Try.prog ops Q rest (a.put o.dst (.tuple #[.bool true, .int .i64 (x : Int), .bool true])) w') :
    wpList Try.prog ops Q (o :: rest) a w := by
  obtain ⟨D, left, c, h1, h2, h3, h4⟩ := hr
  refine wpList_next_ranges (α := Int) (β := Bool) w hg it hop 3 kI RB (Value.int .i64) Value.bool (fun key kl hkey => by obtain ⟨x, rfl, _⟩ := Go.Maps.keyOf_int_inv Try.underlying3 hkey; exact ⟨x, rfl⟩) (fun v y hv => by obtain ⟨q, rfl, _⟩ := rb_inv hv; exact ⟨q, rfl⟩)
    b r (cnt n s) D left c hit h1 (fun _ hl => hDone (fun x hx => by rw [← h3 x hx]; exact hl _)) ?_
  intro x q kl y w' cnt' hkey hlk hv hat hrg hlt hgr hsz hen
  obtain ⟨x', e1, e2, _⟩ := Go.Maps.keyOf_int_inv Try.underlying3 hkey
  cases e1
  subst e2
  obtain ⟨z, hz, hez⟩ := h4 _ hlk
  have hxz : x = (z : Int) := by simpa [kx] using hez
  subst hxz
  have hl : l z = true := by rw [← h3 z hz]; exact hlk
  have hy := hat (.lit (.bool false))
  rw [h2.at' z hz] at hy
  have hy2 := hat (.lit (.bool true))
  have hsz' : s z = true := by
    by_cases hsz2 : s z = true
    · exact hsz2
    · exfalso
      have hf : s z = false := by simpa using hsz2
      have hh := h2.has z hz
      rw [hf] at hh
      rw [Go.Maps.atKey_of_not_has hh] at hy2
      rw [hf, ← hy2] at hy
      simp at hy
  obtain ⟨q', e3, e4⟩ := rb_inv hv
  simp only [Value.bool.injEq] at e3
  subst e3
  rw [e4, hsz'] at hy
  simp only [DataW.lit.injEq, Lit.bool.injEq] at hy
  subst hy
  refine hMore z w' hz hl hsz' ⟨D, _, cnt', hrg, h2, fun u hu => ?_, fun kl hkl => ?_⟩ (by rw [hrg.left_eq, h1.left_eq]; exact hlt) hgr hsz hen
  · by_cases e : u = z
    · subst e
      simp [adj, kx, Lit.sameKey]
    · have : (kx u).sameKey (kx z) = false := Go.Maps.sameKey_ne (fun he => e (kx_inj he))
      simp [this, adj, e, h3 u hu]
  · simp only [Bool.and_eq_true] at hkl
    exact h4 kl hkl.1

end

end Go.Proofs.Ytbgnieajeipllaa
