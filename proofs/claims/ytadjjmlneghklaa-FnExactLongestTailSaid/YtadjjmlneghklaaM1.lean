/-
  Joint text of MA MB MC MD ME MF (written by wip/tools/merge.py).
-/
import Derived.Test.YtadjjmlneghklaaPW
import Derived.Maps.OwnSet
import Derived.Maps.RangeWalk
import Derived.Test.YtadjjmlneghklaaJU
import Derived.Test.YtadjjmlneghklaaJP
/- from XMA -/
namespace Go.Proofs.Ytadjjmlneghklaa
open Go.RowKit
open Go.Maps (Keyed IsMap Tidy)
set_option linter.unusedVariables false
set_option linter.unusedSimpArgs false
set_option maxRecDepth 100000

/-- How many of the numbers below n are in a set. -/
def cnt (n : Nat) (s : Nat → Bool) : Nat := ((List.range n).filter s).length

theorem cnt_succ (n : Nat) (s : Nat → Bool) : cnt (n + 1) s = cnt n s + if s n = true then 1 else 0 := by
  unfold cnt
  rw [List.range_succ, List.filter_append, List.length_append]
  by_cases h : s n = true <;> simp [h]
theorem cnt_le (n : Nat) (s : Nat → Bool) : cnt n s ≤ n := by
  have := List.length_filter_le s (List.range n)
  rw [List.length_range] at this
  exact this
theorem cnt_congr {n : Nat} {s t : Nat → Bool} (h : ∀ x, x < n → s x = t x) : cnt n s = cnt n t := by
  unfold cnt
  rw [List.filter_congr fun x hx => h x (List.mem_range.1 hx)]
theorem cnt_none (n : Nat) : cnt n (fun _ => false) = 0 := by simp [cnt]
theorem cnt_all (n : Nat) : cnt n (fun x => decide (x < n)) = n := by
  unfold cnt
  rw [List.filter_eq_self.2 (fun x hx => by simpa using hx), List.length_range]

def adj (s : Nat → Bool) (x : Nat) (q : Bool) : Nat → Bool := fun y => if y = x then q else s y

theorem cnt_add (s : Nat → Bool) (x : Nat) : ∀ n, x < n → cnt n (adj s x true) = if s x = true then cnt n s else cnt n s + 1
  | 0, h => absurd h (Nat.not_lt_zero _)
  | n + 1, h => by
    rw [cnt_succ, cnt_succ]
    by_cases e : x = n
    · subst e
      have h1 : cnt x (adj s x true) = cnt x s := cnt_congr fun y hy => by simp [adj, Nat.ne_of_lt hy]
      rw [h1]
      by_cases hs : s x = true <;> simp [adj, hs]
    · have h1 := cnt_add s x n (by omega)
      have e' : ¬ n = x := fun h => e h.symm
      rw [h1]
      by_cases hs : s x = true <;> by_cases ht : s n = true <;> simp [adj, hs, ht, e'] <;> omega

theorem cnt_del (s : Nat → Bool) (x : Nat) : ∀ n, x < n → cnt n (adj s x false) + (if s x = true then 1 else 0) = cnt n s
  | 0, h => absurd h (Nat.not_lt_zero _)
  | n + 1, h => by
    rw [cnt_succ, cnt_succ]
    by_cases e : x = n
    · subst e
      have h1 : cnt x (adj s x false) = cnt x s := cnt_congr fun y hy => by simp [adj, Nat.ne_of_lt hy]
      rw [h1]
      simp [adj]
    · have h1 := cnt_del s x n (by omega)
      have e' : ¬ n = x := fun h => e h.symm
      by_cases ht : s n = true <;> simp [adj, ht, e'] at h1 ⊢ <;> omega

noncomputable abbrev RB : Value → Option (DataW Unit × List MemPlace) := plainElem Try.prog 4
theorem kI : Keyed Try.prog 3 := Go.Maps.int_keyed Try.underlying3
theorem zeroB (w : World) : (zeroValue 4).run Try.prog w = .ok (.bool false) w := by kernel_rfl

theorem rb_inv {v : Value} {z : DataW Unit × List MemPlace} (h : RB v = some z) : ∃ q, v = .bool q ∧ z = (.lit (.bool q), []) := by
  unfold RB plainElem at h
  rw [Try.underlying4] at h
  cases v <;> simp at h
  exact ⟨_, rfl, h.symm⟩

abbrev kx (x : Nat) : Lit := .int .i64 (x : Int)
theorem kx_inj {x y : Nat} (h : kx x = kx y) : x = y := by simp only [kx, Lit.int.injEq, true_and] at h; omega
theorem kx_key (x : Nat) (h : x < 100000) : keyOf Try.prog 3 (.int .i64 (x : Int)) = some (kx x) :=
  Go.Maps.keyOf_int_mk Try.underlying3 (WalkArith.wf_i64 (by omega))

/-- A datum that holds the set s, each number with the element true. -/
structure SD (D : DataW Unit) (n : Nat) (s : Nat → Bool) : Prop where
  size : Maps.size D = cnt n s
  has : ∀ x : Nat, x < n → Maps.has D (kx x) = s x
  at' : ∀ x : Nat, x < n → D.atKey (kx x) (.lit (.bool false)) = .lit (.bool (s x))
  only : ∀ kl, Maps.has D kl = true → ∃ x : Nat, x < n ∧ kl = kx x

/-- Block b is a map of the call's that is the set s. -/
def St (w : World) (n b : Nat) (s : Nat → Bool) : Prop := ∃ D : DataW Unit, w.ownsMap Try.prog 3 RB b (cnt n s) D ∧ SD D n s

theorem tight {w : World} {b k : Nat} {D : DataW Unit} (h : w.ownsMap Try.prog 3 RB b k D) : w.ownsMap Try.prog 3 RB b (Maps.size D) D := by
  obtain ⟨es, clock, hb, F, hs, rfl⟩ := h
  refine ⟨es, clock, hb, F, ?_, rfl⟩
  simp [Maps.size, length_sorted]

theorem St.lt {w : World} {n b : Nat} {s : Nat → Bool} (h : St w n b s) : b < w.heap.size := by obtain ⟨D, h1, _⟩ := h; exact h1.lt
theorem St.kept {w w' : World} {n b : Nat} {s : Nat → Bool} {row : Option Nat} (h : St w n b s) (hg : w.grownBy w' row) (hne : some b ≠ row) : St w' n b s := by
  obtain ⟨D, h1, h2⟩ := h; exact ⟨D, h1.kept hg hne, h2⟩
theorem St.keep {w w' : World} {n b : Nat} {s : Nat → Bool} (h : St w n b s) (hb : Below w.heap.size w w') : St w' n b s := by
  obtain ⟨D, h1, h2⟩ := h
  have hl := h1.lt
  obtain ⟨es, clock, hbb, F, hs, hD⟩ := h1
  exact ⟨D, ⟨es, clock, by rw [hb.block b hl]; exact hbb, F, hs, hD⟩, h2⟩
theorem St.keepB {w w' : World} {C n b : Nat} {s : Nat → Bool} (h : St w n b s) (hb : Below C w w') (hl : b < C) : St w' n b s := by
  obtain ⟨D, h1, h2⟩ := h
  obtain ⟨es, clock, hbb, F, hs, hD⟩ := h1
  exact ⟨D, ⟨es, clock, by rw [hb.block b hl]; exact hbb, F, hs, hD⟩, h2⟩
theorem St.alloc {w : World} {n b : Nat} {s : Nat → Bool} (h : St w n b s) (o : Obj) : St (w.alloc o) n b s := by
  obtain ⟨D, h1, h2⟩ := h; exact ⟨D, h1.alloc o, h2⟩
theorem St.drew {w : World} {n b : Nat} {s : Nat → Bool} (h : St w n b s) : St w.drew n b s := h

theorem SD.congr {D : DataW Unit} {n : Nat} {s t : Nat → Bool} (h : SD D n s) (he : ∀ x, x < n → s x = t x) : SD D n t :=
  ⟨by rw [h.size, cnt_congr he], fun x hx => by rw [h.has x hx, he x hx], fun x hx => by rw [h.at' x hx, he x hx], h.only⟩
theorem St.congr {w : World} {n b : Nat} {s t : Nat → Bool} (h : St w n b s) (he : ∀ x, x < n → s x = t x) : St w n b t := by
  obtain ⟨D, h1, h2⟩ := h
  exact ⟨D, by rw [← cnt_congr he]; exact h1, h2.congr he⟩

theorem St.made (w : World) (n : Nat) : St (w.alloc (.map #[] 0)) n w.heap.size (fun _ => false) :=
  ⟨_, by rw [cnt_none]; exact World.ownsMap_made w _ _ _, by rw [cnt_none]; rfl, fun x _ => rfl, fun x _ => rfl, fun kl h => by cases h⟩

theorem SD.put {D : DataW Unit} {n : Nat} {s : Nat → Bool} (h : SD D n s) (hT : Tidy D) {x : Nat} (hx : x < n) (hk : WideAt.IsKeyLit (kx x)) : SD (D.put (kx x) (.lit (.bool true))) n (adj s x true) := by
  refine ⟨?_, fun y hy => ?_, fun y hy => ?_, fun kl hkl => ?_⟩
  · rw [Maps.size_put hT, h.has x hx, h.size, cnt_add s x n hx]
  · by_cases e : y = x
    · subst e; rw [Maps.has_put_same hT.isMap hk]; simp [adj]
    · rw [Maps.has_put_other (fun he => e (kx_inj he)), h.has y hy]; simp [adj, e]
  · by_cases e : y = x
    · subst e; rw [Maps.atKey_put_same hT.isMap hk]; simp [adj]
    · rw [Maps.atKey_put_other (fun he => e (kx_inj he)), h.at' y hy]; simp [adj, e]
  · by_cases e : kl = kx x
    · exact ⟨x, hx, e⟩
    · rw [Maps.has_put_other e] at hkl; exact h.only kl hkl

theorem SD.del {D : DataW Unit} {n : Nat} {s : Nat → Bool} (h : SD D n s) (hT : Tidy D) {x : Nat} (hx : x < n) (hk : WideAt.IsKeyLit (kx x)) : SD (D.del (kx x)) n (adj s x false) := by
  refine ⟨?_, fun y hy => ?_, fun y hy => ?_, fun kl hkl => ?_⟩
  · have h1 := Maps.size_del (k := kx x) hT
    have h2 := cnt_del s x n hx
    rw [h.has x hx, h.size] at h1
    omega
  · by_cases e : y = x
    · subst e; rw [Maps.has_del_same]; simp [adj]
    · rw [Maps.has_del_other (fun he => e (kx_inj he)), h.has y hy]; simp [adj, e]
  · by_cases e : y = x
    · subst e; rw [Maps.atKey_del_same]; simp [adj]
    · rw [Maps.atKey_del_other (fun he => e (kx_inj he)), h.at' y hy]; simp [adj, e]
  · by_cases e : kl = kx x
    · exact ⟨x, hx, e⟩
    · rw [Maps.has_del_other e] at hkl; exact h.only kl hkl

end Go.Proofs.Ytadjjmlneghklaa

/- from XMB -/
namespace Go.Proofs.Ytadjjmlneghklaa
open Go.RowKit
open Go.Maps (Keyed IsMap Tidy)
set_option linter.unusedVariables false
set_option linter.unusedSimpArgs false
set_option maxRecDepth 100000

section
variable {w : World} {ops : Array Oper} {rest : List Oper} {o : Oper} {a : Act} {Q : Exit → Act → World → Prop}

/-- 'set[x] = true'. -/
theorem wpList_putS (hg : o.guard = none) (m x v : Operand) (hop : o.op = Op.mapUpdate 83 m x v) (n b : Nat) (s : Nat → Bool) (y : Nat)
    (hm : a.eval m = .map (some b)) (hx : a.eval x = .int .i64 (y : Int)) (hv : a.eval v = .bool true) (hs : St w n b s) (hy : y < n) (hn : n ≤ 100000)
    (h : ∀ w', St w' n b (adj s y true) → w.grownBy w' (some b) → wpList Try.prog ops Q rest (a.put o.dst undef) w') : wpList Try.prog ops Q (o :: rest) a w := by
  obtain ⟨D, hD, hS⟩ := hs
  have hc := cnt_le n s
  refine wpList_mapUpdate_own w hg m x v 83 hop 3 4 kI Try.underlying83 RB b (cnt n s) D hm hD (by unfold maxLen; omega) _ _ (kx y) hx hv (kx_key y (by omega)) (.lit (.bool true)) [] (plainElem_bool Try.underlying4 true) ?_
  intro w' h1 h2
  have h3 := hS.put (hD.tidy kI) hy trivial
  refine h w' ⟨_, ?_, h3⟩ h2
  rw [← h3.size]
  exact tight h1

/-- 'set[x]'. -/
theorem wpList_lookS (hg : o.guard = none) (m x : Operand) (hop : o.op = Op.lookup 83 m x false) (n b : Nat) (s : Nat → Bool) (y : Nat)
    (hm : a.eval m = .map (some b)) (hx : a.eval x = .int .i64 (y : Int)) (hs : St w n b s) (hy : y < n) (hn : n ≤ 100000)
    (h : wpList Try.prog ops Q rest (a.put o.dst (.bool (s y))) w) : wpList Try.prog ops Q (o :: rest) a w := by
  obtain ⟨D, hD, hS⟩ := hs
  refine wpList_plain hg fun K' hK' => ?_
  obtain ⟨v, ps, hrun, hv⟩ := hD.lookup kI Try.underlying83 (zeroB w) (plainElem_bool Try.underlying4 false) (kx_key y (by omega))
  obtain ⟨q, rfl, hq⟩ := rb_inv hv
  have he := hS.at' y hy
  have hq2 := congrArg Prod.fst hq
  simp only at hq2
  rw [he] at hq2
  simp only [DataW.lit.injEq, Lit.bool.injEq] at hq2
  subst hq2
  unfold Oper.wp
  simp [execOp, hop, hm, hx, hrun, Result.andThen]
  exact hK' _ _ h

/-- 'delete(set, x)'. -/
theorem wpList_delS (hg : o.guard = none) (m x : Operand) (hop : o.op = Op.call { callee := Callee.builtin Builtin.delete, args := #[m, x], argTypes := #[83, 3] }) (n b : Nat) (s : Nat → Bool) (y : Nat)
    (hm : a.eval m = .map (some b)) (hx : a.eval x = .int .i64 (y : Int)) (hs : St w n b s) (hy : y < n) (hn : n ≤ 100000)
    (h : ∀ w', St w' n b (adj s y false) → w.grownBy w' (some b) → wpList Try.prog ops Q rest (a.put o.dst (.tuple #[])) w') : wpList Try.prog ops Q (o :: rest) a w := by
  obtain ⟨D, hD, hS⟩ := hs
  refine wpList_delete_own w hg m x 83 3 hop 4 kI Try.underlying83 RB b (cnt n s) D hm hD _ (kx y) hx (kx_key y (by omega)) ?_
  intro w' h1 h2
  have h3 := hS.del (hD.tidy kI) hy trivial
  refine h w' ⟨_, ?_, h3⟩ h2.grown
  rw [← h3.size]
  exact tight h1

/-- 'len(set)'. -/
theorem wpList_lenS (hg : o.guard = none) (m : Operand) (hop : o.op = Op.call { callee := Callee.builtin Builtin.len, args := #[m], argTypes := #[83] }) (n b : Nat) (s : Nat → Bool)
    (hm : a.eval m = .map (some b)) (hs : St w n b s) (h : wpList Try.prog ops Q rest (a.put o.dst (.int .i64 (cnt n s : Nat))) w) : wpList Try.prog ops Q (o :: rest) a w := by
  obtain ⟨D, hD, hS⟩ := hs
  refine wpList_len_own w hg m 83 hop 3 4 Try.underlying83 RB b (cnt n s) D hm hD ?_
  rw [hS.size]
  exact h

/-- A range over the set in block b is under way, its iterator in block r; the numbers in l are still to come. -/
def Ran (w : World) (n b r : Nat) (s l : Nat → Bool) : Prop := ∃ (D : DataW Unit) (left : Lit → Bool) (c : Nat), w.ranges Try.prog 3 RB b r (cnt n s) D left c ∧ SD D n s ∧ (∀ x : Nat, x < n → left (kx x) = l x) ∧ ∀ kl, left kl = true → ∃ x : Nat, x < n ∧ kl = kx x

theorem Ran.st {n b r : Nat} {s l : Nat → Bool} (h : Ran w n b r s l) : St w n b s := by obtain ⟨D, left, c, h1, h2, _⟩ := h; exact ⟨D, h1.owns, h2⟩
theorem Ran.lt {n b r : Nat} {s l : Nat → Bool} (h : Ran w n b r s l) : r < w.heap.size := by obtain ⟨D, left, c, h1, h2, _⟩ := h; exact h1.lt
theorem Ran.kept {w' : World} {n b r : Nat} {s l : Nat → Bool} {row : Option Nat} (h : Ran w n b r s l) (hg : w.grownBy w' row) (hb : some b ≠ row) (hr : some r ≠ row) : Ran w' n b r s l ∧ w'.rangeLeft b r = w.rangeLeft b r := by
  obtain ⟨D, left, c, h1, h2⟩ := h
  have h3 := h1.kept hg hb hr
  exact ⟨⟨D, left, c, h3, h2⟩, by rw [h3.left_eq, h1.left_eq]⟩
theorem Ran.alloc {n b r : Nat} {s l : Nat → Bool} (h : Ran w n b r s l) (o : Obj) : Ran (w.alloc o) n b r s l := (h.kept (World.grownBy_alloc w o none) (by simp) (by simp)).1

/-- 'range set'. -/
theorem wpList_rangeS (hg : o.guard = none) (m : Operand) (hop : o.op = Op.range 83 m) (n b : Nat) (s : Nat → Bool) (hm : a.eval m = .map (some b)) (hs : St w n b s)
    (h : ∀ w', Ran w' n b w.heap.size s s → w.grownBy w' none → w'.heap.size = w.heap.size + 1 → wpList Try.prog ops Q rest (a.put o.dst (.pointer (some ⟨w.heap.size, 0, none⟩))) w') : wpList Try.prog ops Q (o :: rest) a w := by
  obtain ⟨D, hD, hS⟩ := hs
  refine wpList_range_own w hg m 83 hop 3 4 kI Try.underlying83 RB b (cnt n s) D hm hD ?_
  intro w' h1 h2 h3
  exact h w' ⟨D, _, _, h1, hS, hS.has, hS.only⟩ h2 h3

/-- The step of a range. -/
theorem wpList_nextS (hg : o.guard = none) (it : Operand) (hop : o.op = Op.next it false) (n b r : Nat) (s l : Nat → Bool) (hit : a.eval it = .pointer (some ⟨r, 0, none⟩)) (hr : Ran w n b r s l)
    (hDone : (∀ x, x < n → l x = false) → wpList Try.prog ops Q rest (a.put o.dst (.tuple #[.bool false])) w)
    (hMore : ∀ (x : Nat) (w' : World), x < n → l x = true → s x = true → Ran w' n b r s (adj l x false) → w'.rangeLeft b r < w.rangeLeft b r → w.grownBy w' (some r) → w'.heap.size = w.heap.size →
      (Instr.entry (.pointer (some ⟨r, 0, none⟩))).run Try.prog w' = .ok (.tuple #[.int .i64 (x : Int), .bool true]) w' → wpList Try.prog ops Q rest (a.put o.dst (.tuple #[.bool true, .int .i64 (x : Int), .bool true])) w') :
    wpList Try.prog ops Q (o :: rest) a w := by
  obtain ⟨D, left, c, h1, h2, h3, h4⟩ := hr
  refine wpList_next_ranges (α := Int) (β := Bool) w hg it hop 3 kI RB (Value.int .i64) Value.bool (fun key kl hkey => by obtain ⟨x, rfl, _⟩ := Go.Maps.keyOf_int_inv Try.underlying3 hkey; exact ⟨x, rfl⟩) (fun v y hv => by obtain ⟨q, rfl, _⟩ := rb_inv hv; exact ⟨q, rfl⟩)
    b r (cnt n s) D left c hit h1 (fun _ hl => hDone (fun x hx => by rw [← h3 x hx]; exact hl _)) ?_
  intro x q kl y w' cnt' hkey hlk hv hat hrg hlt hgr hsz hen
  obtain ⟨x', e1, e2, _⟩ := Go.Maps.keyOf_int_inv Try.underlying3 hkey
  cases e1
  subst e2
  obtain ⟨z, hz, hez⟩ := h4 _ hlk
  have hxz : x = (z : Int) := by simpa [kx] using hez
  subst hxz
  have hl : l z = true := by rw [← h3 z hz]; exact hlk
  have hy := hat (.lit (.bool false))
  rw [h2.at' z hz] at hy
  have hy2 := hat (.lit (.bool true))
  have hsz' : s z = true := by
    by_cases hsz2 : s z = true
    · exact hsz2
    · exfalso
      have hf : s z = false := by simpa using hsz2
      have hh := h2.has z hz
      rw [hf] at hh
      rw [Go.Maps.atKey_of_not_has hh] at hy2
      rw [hf, ← hy2] at hy
      simp at hy
  obtain ⟨q', e3, e4⟩ := rb_inv hv
  simp only [Value.bool.injEq] at e3
  subst e3
  rw [e4, hsz'] at hy
  simp only [DataW.lit.injEq, Lit.bool.injEq] at hy
  subst hy
  refine hMore z w' hz hl hsz' ⟨D, _, cnt', hrg, h2, fun u hu => ?_, fun kl hkl => ?_⟩ (by rw [hrg.left_eq, h1.left_eq]; exact hlt) hgr hsz hen
  · by_cases e : u = z
    · subst e
      simp [adj, kx, Lit.sameKey]
    · have : (kx u).sameKey (kx z) = false := Go.Maps.sameKey_ne (fun he => e (kx_inj he))
      simp [this, adj, e, h3 u hu]
  · simp only [Bool.and_eq_true] at hkl
    exact h4 kl hkl.1

end

end Go.Proofs.Ytadjjmlneghklaa

/- from XMC -/
namespace Go.Proofs.Ytadjjmlneghklaa
open Go.RowKit
set_option linter.unusedVariables false
set_option linter.unusedSimpArgs false
set_option maxRecDepth 100000


def lenOf : Value → Nat
  | .slice _ n _ => n
  | _ => 0

theorem lenOf_rd {w : World} {B : Nat} {v : Value} {xs : List Int} (h : Rd w B v xs) : lenOf v = xs.length := by
  rcases h.cases with ⟨rfl, rfl⟩ | ⟨g, cap, rfl, _⟩ <;> rfl


/-- A map of up to 100000 numbers that lies in a block of its own from place 0 on. -/
structure Mg (w : World) (g n : Nat) (f : Nat → Nat) : Prop where
  lt : g < w.heap.size
  cell : ∀ j, j < n → w.cell? ⟨g, j, none⟩ = some (.int .i64 ((f j : Nat) : Int))
  into : Into f n
  n0 : 1 ≤ n
  n1 : n ≤ 100000

theorem Mg.keep {w w' : World} {g n : Nat} {f : Nat → Nat} (h : Mg w g n f) (hb : Below w.heap.size w w') : Mg w' g n f :=
  ⟨Nat.lt_of_lt_of_le h.lt hb.size, fun j hj => (hb.cell (p := ⟨g, j, none⟩) h.lt).trans (h.cell j hj), h.into, h.n0, h.n1⟩
theorem Mg.keepB {w w' : World} {C g n : Nat} {f : Nat → Nat} (h : Mg w g n f) (hb : Below C w w') (hg : g < C) (hs : w.heap.size ≤ w'.heap.size) : Mg w' g n f :=
  ⟨Nat.lt_of_lt_of_le h.lt hs, fun j hj => (hb.cell (p := ⟨g, j, none⟩) hg).trans (h.cell j hj), h.into, h.n0, h.n1⟩
theorem Mg.drew {w : World} {g n : Nat} {f : Nat → Nat} (h : Mg w g n f) : Mg w.drew g n f := ⟨h.lt, h.cell, h.into, h.n0, h.n1⟩

/-- The numbers to which k steps lead. -/
def img (f : Nat → Nat) (n k y : Nat) : Bool := (List.range n).any fun x => it f k x == y
theorem img_iff {f : Nat → Nat} {n k y : Nat} : img f n k y = true ↔ ∃ x, x < n ∧ it f k x = y := by simp [img]
theorem img_cyc (f : Nat → Nat) (n : Nat) : img f n n = cyc f n := rfl
theorem img_zero {f : Nat → Nat} {n y : Nat} (h : y < n) : img f n 0 y = true := img_iff.2 ⟨y, h, rfl⟩
theorem img_lt {f : Nat → Nat} {n k y : Nat} (h : Into f n) (hi : img f n k y = true) : y < n := by
  obtain ⟨x, hx, rfl⟩ := img_iff.1 hi
  exact it_lt h k hx
theorem img_succ {f : Nat → Nat} {n k y : Nat} (h : Into f n) : img f n (k + 1) y = true ↔ ∃ z, img f n k z = true ∧ f z = y := by
  rw [img_iff]
  constructor
  · rintro ⟨x, hx, rfl⟩
    exact ⟨it f k x, img_iff.2 ⟨x, hx, rfl⟩, rfl⟩
  · rintro ⟨z, hz, rfl⟩
    obtain ⟨x, hx, rfl⟩ := img_iff.1 hz
    exact ⟨x, hx, rfl⟩
theorem img_down {f : Nat → Nat} {n k y : Nat} (h : Into f n) (hi : img f n (k + 1) y = true) : img f n k y = true := by
  obtain ⟨x, hx, rfl⟩ := img_iff.1 hi
  rw [it_in]
  exact img_iff.2 ⟨f x, h x hx, rfl⟩

theorem cnt_mono {n : Nat} {s t : Nat → Bool} (h : ∀ x, x < n → s x = true → t x = true) : cnt n s ≤ cnt n t := by
  induction n with
  | zero => simp [cnt]
  | succ n ih =>
    rw [cnt_succ, cnt_succ]
    have h1 := ih fun x hx => h x (by omega)
    by_cases hs : s n = true
    · rw [if_pos hs, if_pos (h n (by omega) hs)]; omega
    · rw [if_neg hs]; omega

theorem cnt_eq {n : Nat} {s t : Nat → Bool} (h : ∀ x, x < n → s x = true → t x = true) (he : cnt n s = cnt n t) : ∀ x, x < n → s x = t x := by
  induction n with
  | zero => intro x hx; omega
  | succ n ih =>
    rw [cnt_succ, cnt_succ] at he
    have h1 := cnt_mono (n := n) fun x hx => h x (by omega)
    intro x hx
    by_cases hs : s n = true
    · have ht := h n (by omega) hs
      rw [if_pos hs, if_pos ht] at he
      by_cases e : x = n
      · subst e; rw [hs, ht]
      · exact ih (fun x hx => h x (by omega)) (by omega) x (by omega)
    · by_cases ht : t n = true
      · rw [if_neg hs, if_pos ht] at he; omega
      · rw [if_neg hs, if_neg ht] at he
        by_cases e : x = n
        · subst e; simp only [Bool.not_eq_true] at hs ht; rw [hs, ht]
        · exact ih (fun x hx => h x (by omega)) (by omega) x (by omega)

theorem cnt_pos {n : Nat} {s : Nat → Bool} {x : Nat} (hx : x < n) (h : s x = true) : 1 ≤ cnt n s := by
  have h1 : x ∈ (List.range n).filter s := List.mem_filter.2 ⟨List.mem_range.2 hx, h⟩
  exact List.length_pos_of_mem h1

/-- When the images stay as many, they are the numbers on cycles, there and from there on. -/
theorem img_stop {f : Nat → Nat} {n k : Nat} (h : Into f n) (he : cnt n (img f n (k + 1)) = cnt n (img f n k)) : ∀ y, y < n → img f n k y = cyc f n y := by
  have h1 := cnt_eq (fun x _ => img_down h) he
  have h2 : ∀ j y, y < n → img f n (k + j) y = img f n k y := by
    intro j
    induction j with
    | zero => intro y _; rfl
    | succ j ih =>
      intro y hy
      rw [← h1 y hy, Bool.eq_iff_iff, show k + (j + 1) = (k + j) + 1 from rfl, img_succ h, img_succ h]
      constructor
      · rintro ⟨z, hz, e⟩; exact ⟨z, by rw [← ih z (img_lt h hz)]; exact hz, e⟩
      · rintro ⟨z, hz, e⟩; exact ⟨z, by rw [ih z (img_lt h hz)]; exact hz, e⟩
  intro y hy
  rw [← h2 n y hy, Bool.eq_iff_iff, img_iff]
  constructor
  · rintro ⟨x, hx, rfl⟩
    exact cyc_late h hx (by omega)
  · intro hc
    obtain ⟨p, p1, p2, p3⟩ := cyc_per h hc
    refine ⟨it f ((k + n) * p - (k + n)) y, it_lt h _ hy, ?_⟩
    have hle : k + n ≤ (k + n) * p := Nat.le_mul_of_pos_right _ p1
    rw [← it_add, show (k + n) + ((k + n) * p - (k + n)) = (k + n) * p from by omega]
    exact it_mul p3 _

/-- As long as they don't, they get fewer. -/
theorem img_fall {f : Nat → Nat} {n : Nat} (h : Into f n) : ∀ k, (∀ j, j < k → cnt n (img f n (j + 1)) ≠ cnt n (img f n j)) → cnt n (img f n k) + k ≤ n
  | 0, _ => by have := cnt_le n (img f n 0); omega
  | k + 1, hk => by
    have h1 := img_fall h k fun j hj => hk j (by omega)
    have h2 := hk k (by omega)
    have h3 := cnt_mono (n := n) (s := img f n (k + 1)) (t := img f n k) fun x _ => img_down (k := k) h
    omega

theorem img_bound {f : Nat → Nat} {n k : Nat} (h : Into f n) (h0 : 1 ≤ n) (hk : ∀ j, j < k → cnt n (img f n (j + 1)) ≠ cnt n (img f n j)) : k + 1 ≤ n := by
  have h1 := img_fall h k hk
  have h2 : 1 ≤ cnt n (img f n k) := cnt_pos (it_lt h k (show 0 < n by omega)) (img_iff.2 ⟨0, by omega, rfl⟩)
  omega

theorem below_adj (k : Nat) : adj (fun y => decide (y < k)) k true = fun y => decide (y < k + 1) := by
  funext y
  unfold adj
  by_cases e : y = k
  · subst e; simp
  · rw [if_neg e, decide_eq_decide]; omega

theorem numbers_any (g n cap : Nat) (f : Nat → Nat) (w : World) (h : Mg w g n f) :
    Calls Try.prog 80 #[.slice (some ⟨g, 0, none⟩) n cap] w fun e w' => ∃ b, e = .returned (.map (some b)) ∧ w.heap.size ≤ b ∧ St w' n b (img f n 0) ∧ Below w.heap.size w w' := by
  have H := Lib.hid h
  have h0 := h.n0
  have h1 := h.n1
  have hmm := @run_makeMap Try.prog
  clear h
  go_enter Try.func80, Try.ntmps80
  go_wp2
  go_loopw [8] (fun i wr => ∃ k : Nat, k ≤ n ∧ i = .int .i64 k ∧ St wr n w.heap.size (fun y => decide (y < k)) ∧ Below w.heap.size w wr) (fun i _ => n - (intOf i).toNat)
  case atStart => exact ⟨0, Nat.zero_le _, rfl, (St.made w n).congr (fun x _ => by simp), (Below.refl _ _).alloc (Nat.le_refl _) _⟩
  case round =>
    obtain ⟨k, hk, rfl, hs, hb⟩ := hrel
    have HS := Lib.hid hs
    have HB := Lib.hid hb
    clear hs hb
    by_cases hlt : k < n
    · go_wp2_with (at_mapUpdate; refine wpList_putS rfl _ _ _ rfl n w.heap.size _ k rfl rfl rfl HS.out hlt h1 ?_; intro w2 hs2 hg2)
      have HS2 := Lib.hid hs2
      have HB2 := Lib.hid (HB.out.trans ((Below.refl w.heap.size wr).grown hg2 HB.out.size (fun q hq => by cases hq; exact Nat.le_refl _)))
      clear hs2 hg2
      go_wp2
      go_roundw
      case rel => exact ⟨k + 1, by omega, by go_num, below_adj k ▸ HS2.out, HB2.out⟩
      case measure => simp [intOf]; omega
    · obtain rfl : k = n := by omega
      go_wp2
      go_ret
      exact ⟨_, rfl, Nat.le_refl _, HS.out.congr (fun x hx => by rw [img_zero hx]; simpa using hx), HB.out⟩

/-- The sets in a slice of sets are the images of 0, 1, .. steps. -/
def Imgs (w : World) (C n : Nat) (f : Nat → Nat) (v : Value) (bs : List Nat) : Prop :=
  Rg 83 w C v (bs.map fun b => Value.map (some b)) ∧ ∀ (i b : Nat), bs[i]? = some b → C ≤ b ∧ St w n b (img f n i)

/-- A slice's row and a set never lie in one block. -/
theorem row_not_set {w : World} {B n b : Nat} {e : TypeId} {v : Value} {xs : List Value} {s : Nat → Bool} (h : Rg e w B v xs) (hs : St w n b s) : some b ≠ v.ownBlock := by
  intro hc
  obtain ⟨D, ⟨es, clock, hb, _⟩, _⟩ := hs
  rcases h.2 with ⟨rfl, _⟩ | ⟨g, cap, cur, rfl, _, hg, _⟩
  · cases hc
  · simp only [Value.ownBlock, Option.some.injEq] at hc
    subst hc
    rw [hb] at hg
    cases hg

theorem Imgs.keep {w w' : World} {C n : Nat} {f : Nat → Nat} {v : Value} {bs : List Nat} (h : Imgs w C n f v bs) (hb : Below w.heap.size w w') : Imgs w' C n f v bs :=
  ⟨h.1.keep hb, fun i b hi => ⟨(h.2 i b hi).1, (h.2 i b hi).2.keep hb⟩⟩
theorem Imgs.grown {w w' : World} {C n : Nat} {f : Nat → Nat} {v : Value} {bs : List Nat} {r : Nat} (h : Imgs w C n f v bs) (hg : w.grownBy w' (some r)) (h1 : ∀ k, v.ownBlock = some k → k < r) (h2 : ∀ (i b : Nat), bs[i]? = some b → b < r) : Imgs w' C n f v bs := by
  refine ⟨h.1.grown hg ?_, fun i b hi => ⟨(h.2 i b hi).1, (h.2 i b hi).2.kept hg ?_⟩⟩
  · cases hv : v.ownBlock with
    | none => exact .inl rfl
    | some k => exact .inr (fun e => by cases e; exact absurd (h1 _ hv) (Nat.lt_irrefl _))
  · intro e; cases e; exact absurd (h2 _ _ hi) (Nat.lt_irrefl _)

end Go.Proofs.Ytadjjmlneghklaa

/- from XMD -/
namespace Go.Proofs.Ytadjjmlneghklaa
open Go.RowKit
set_option linter.unusedVariables false
set_option linter.unusedSimpArgs false
set_option maxRecDepth 100000

/-- What is in the image of a set but for the numbers still to come. -/
def part (f : Nat → Nat) (n : Nat) (s l : Nat → Bool) : Nat → Bool := fun y => (List.range n).any fun x => s x && !l x && f x == y
theorem part_start (f : Nat → Nat) (n : Nat) (s : Nat → Bool) : part f n s s = fun _ => false := by
  funext y
  unfold part
  rw [List.any_eq_false]
  intro x _
  cases s x <;> simp
theorem part_step {f : Nat → Nat} {n : Nat} {s l : Nat → Bool} {x : Nat} (hx : x < n) (hs : s x = true) (hl : l x = true) : adj (part f n s l) (f x) true = part f n s (adj l x false) := by
  funext y
  unfold adj
  rw [Bool.eq_iff_iff]
  by_cases e : y = f x
  · subst e
    rw [if_pos rfl]
    simp only [true_iff]
    unfold part
    rw [List.any_eq_true]
    exact ⟨x, List.mem_range.2 hx, by simp [hs]⟩
  · rw [if_neg e]
    unfold part
    rw [List.any_eq_true, List.any_eq_true]
    constructor
    · rintro ⟨z, hz, h⟩
      refine ⟨z, hz, ?_⟩
      by_cases e2 : z = x
      · subst e2; simp [hl] at h
      · simpa [e2] using h
    · rintro ⟨z, hz, h⟩
      refine ⟨z, hz, ?_⟩
      by_cases e2 : z = x
      · subst e2; simp at h; exact absurd h.2.symm e
      · simpa [e2] using h
theorem part_end {f : Nat → Nat} {n k : Nat} {l : Nat → Bool} (h : Into f n) (hl : ∀ x, x < n → l x = false) : ∀ y, y < n → part f n (img f n k) l y = img f n (k + 1) y := by
  intro y hy
  rw [Bool.eq_iff_iff, img_succ h]
  unfold part
  rw [List.any_eq_true]
  constructor
  · rintro ⟨x, hx, hh⟩
    simp only [Bool.and_eq_true, beq_iff_eq] at hh
    exact ⟨x, hh.1.1, hh.2⟩
  · rintro ⟨x, hx, rfl⟩
    have hxn := img_lt h hx
    exact ⟨x, List.mem_range.2 hxn, by simp [hx, hl x hxn]⟩

theorem fun_upto {P : Nat → Prop} {k : Nat} (h : ∀ j, j < k → P j) (hk : P k) : ∀ j, j < k + 1 → P j := fun j hj => by
  by_cases e : j = k
  · subst e; exact hk
  · exact h j (by omega)

theorem imgs_snoc {w w' : World} {C n k gv cv c : Nat} {f : Nat → Nat} {bs : List Nat} {o : Obj} {v' : Value} (h : Imgs w C n f (.slice (some ⟨gv, 0, none⟩) (k + 1) cv) bs) (hl : bs.length = k + 1) (hs : St w n c (img f n (k + 1))) (hC : C ≤ w.heap.size) (hc : C ≤ c)
    (hr : Rg 83 w' C v' (bs.map (fun b => Value.map (some b)) ++ [.map (some c)])) (hg : (w.alloc o).grownBy w' (Value.slice (some ⟨gv, 0, none⟩) (k + 1) cv).ownBlock) :
    Imgs w' C n f v' (bs ++ [c]) ∧ ∃ g2 c2, v' = .slice (some ⟨g2, 0, none⟩) (k + 1 + 1) c2 := by
  refine ⟨⟨by rw [List.map_append]; exact hr, fun i b hi => ?_⟩, ?_⟩
  · by_cases hik : i < k + 1
    · rw [List.getElem?_append_left (by omega)] at hi
      obtain ⟨h1, h2⟩ := h.2 i b hi
      exact ⟨h1, (h2.alloc o).kept hg (row_not_set (h.1.alloc o) (h2.alloc o))⟩
    · rw [List.getElem?_append_right (by omega)] at hi
      by_cases hi0 : i = k + 1
      · subst hi0
        rw [hl, Nat.sub_self] at hi
        simp only [List.getElem?_cons_zero, Option.some.injEq] at hi
        subst hi
        exact ⟨hc, (hs.alloc o).kept hg (row_not_set (h.1.alloc o) (hs.alloc o))⟩
      · rw [List.getElem?_eq_none (by simp; omega)] at hi
        cases hi
  · rcases hr.cases with ⟨_, h2⟩ | ⟨g2, c2, h2⟩
    · exact absurd (congrArg List.length h2) (by simp)
    · refine ⟨g2, c2, ?_⟩
      rw [h2]
      simp [hl]

theorem images_any (g n cap : Nat) (f : Nat → Nat) (w : World) (h : Mg w g n f) :
    Calls Try.prog 72 #[.slice (some ⟨g, 0, none⟩) n cap] w fun e w' => ∃ (v : Value) (bs : List Nat) (k : Nat), e = .returned v ∧ Imgs w' w.heap.size n f v bs ∧ bs.length = k + 1 ∧ k + 1 ≤ n ∧ (∀ j, j < k → cnt n (img f n (j + 1)) ≠ cnt n (img f n j)) ∧ cnt n (img f n (k + 1)) = cnt n (img f n k) ∧ Below w.heap.size w w' := by
  have H := Lib.hid h
  have h0 := h.n0
  have h1 := h.n1
  have hmm := @run_makeMap Try.prog
  clear h
  go_enter Try.func72, Try.ntmps72
  go_wp2_with fail
  refine (numbers_any g n cap f _ H.out).mono ?_
  rintro e w1 ⟨b0, rfl, hb0, hs, hb⟩
  have HB1 := Lib.hid hb
  have HI1 := Lib.hid (show Imgs (w1.alloc (.cells #[.map (some b0)] 83)) w.heap.size n f (.slice (some ⟨w1.heap.size, 0, none⟩) 1 1) [b0] from
    ⟨Rg.lit _ _ _ _ hb.size, fun i b hi => by
      cases i with
      | zero => simp only [List.getElem?_cons_zero, Option.some.injEq] at hi; subst hi; exact ⟨hb0, hs.alloc _⟩
      | succ i => simp at hi⟩)
  clear hb0 hs hb
  go_wp2
  go_loopw [3] (fun v wr => ∃ (bs : List Nat) (k : Nat) (gv cv : Nat), v = .slice (some ⟨gv, 0, none⟩) (k + 1) cv ∧ Imgs wr w.heap.size n f v bs ∧ bs.length = k + 1 ∧ (∀ j, j < k → cnt n (img f n (j + 1)) ≠ cnt n (img f n j)) ∧ Below w.heap.size w wr) (fun v _ => n - lenOf v)
  case atStart => exact ⟨[b0], 0, _, _, rfl, HI1.out, rfl, fun j hj => by omega, HB1.out.alloc HB1.out.size _⟩
  case round =>
    rename World => wa
    obtain ⟨bs, k, gv, cv, rfl, hi, hl, hk, hb⟩ := hrel
    have HI := Lib.hid hi
    have HL := Lib.hid hl
    have HK := Lib.hid hk
    have HB := Lib.hid hb
    have hkn := img_bound H.out.into h0 hk
    have hwa := hb.size
    obtain ⟨b, hbk⟩ : ∃ b, bs[k]? = some b := ⟨bs[k]'(by omega), by simp⟩
    have HBK := Lib.hid hbk
    have hcell : wa.cell? ⟨gv, k, none⟩ = some (.map (some b)) := by
      obtain ⟨_, _, _, _, _, hc, _⟩ := hi.1.at
      rw [hc k (by simp; omega)]
      obtain ⟨hk2, hk3⟩ := List.getElem?_eq_some_iff.1 hbk
      simp [hk3]
    have HS := Lib.hid (hi.2 k b hbk).2
    have hCb := (hi.2 k b hbk).1
    have hblt := (hi.2 k b hbk).2.lt
    clear hi hl hk hb hbk
    have er : (wa.alloc (.map #[] 0)).heap.size = wa.heap.size + 1 := by simp
    go_wp2_with (at_range; refine wpList_rangeS rfl _ rfl n b _ rfl (HS.out.alloc _) ?_; intro w2 hr2 hg2 hz2)
    rw [er] at hr2
    have HR2 := Lib.hid hr2
    have HS2 := Lib.hid ((St.made wa n).kept hg2 (by simp))
    have HB2 := Lib.hid (((Below.refl wa.heap.size wa).alloc (Nat.le_refl _) (.map #[] 0)).grown hg2 (by simp) (fun q hq => by cases hq))
    have hz2' : wa.heap.size + 2 ≤ w2.heap.size := by rw [hz2, er]; exact Nat.le_refl _
    have HZ2 := Lib.hid hz2'
    clear hr2 hg2 hz2 hz2'
    go_frame
    simp only [er]
    go_loopw [6] (fun _ wq => ∃ l, Ran wq n b (wa.heap.size + 1) (img f n k) l ∧ St wq n wa.heap.size (part f n (img f n k) l) ∧ Below wa.heap.size wa wq ∧ wa.heap.size + 2 ≤ wq.heap.size) (fun _ wq => wq.rangeLeft b (wa.heap.size + 1))
    case atStart => exact ⟨_, HR2.out, by rw [part_start]; exact HS2.out, HB2.out, HZ2.out⟩
    case round =>
      obtain ⟨l, hr, hs, hb, hz⟩ := hrel
      have HRq := Lib.hid hr
      have HSq := Lib.hid hs
      have HBq := Lib.hid hb
      have HZq := Lib.hid hz
      clear hr hs hb hz
      go_wp2_with (at_next; go_loud (refine wpList_nextS rfl _ rfl n b (wa.heap.size + 1) _ l rfl HRq.out ?_ ?_))
      · intro hl0
        have HE := Lib.hid (part_end (k := k) H.out.into hl0)
        have HC := Lib.hid (cnt_congr HE.out)
        have HBn := Lib.hid (Below.step HB.out HB.out.size HBq.out)
        have HIq := Lib.hid (HI.out.keep HBq.out)
        by_cases he : cnt n (img f n (k + 1)) = cnt n (img f n k)
        · have hbq : (((cnt n (part f n (img f n k) l) : Nat) : Int) == ((cnt n (img f n k) : Nat) : Int)) = true := beq_yes (by rw [HC.out, he])
          go_wp2_with (first | (at_len; refine wpList_lenS rfl _ rfl n wa.heap.size _ rfl HSq.out ?_) | (at_len; refine wpList_lenS rfl _ rfl n b _ rfl HRq.out.st ?_))
          go_ret
          exact ⟨_, bs, k, rfl, HIq.out, HL.out, hkn, HK.out, he, HBn.out⟩
        · have hbq : (((cnt n (part f n (img f n k) l) : Nat) : Int) == ((cnt n (img f n k) : Nat) : Int)) = false := beq_no (by rw [HC.out]; omega)
          have HN := Lib.hid he
          clear he
          go_wp2_with (first | (at_len; refine wpList_lenS rfl _ rfl n wa.heap.size _ rfl HSq.out ?_) | (at_len; refine wpList_lenS rfl _ rfl n b _ rfl HRq.out.st ?_) | (at_builtin; refine wpList_appG rfl _ _ _ 83 (.map none) 8 Try.underlying92 infoM (by omega) rfl rfl w.heap.size w.heap.size _ _ _ [.map (some wa.heap.size)] rfl rfl (HIq.out.1.alloc _) (Rg.lit _ _ _ _ HBn.out.size) (by simp [Value.oneCell']) (by have := HL.out; simp; omega) (by have := HBn.out.size; simp; omega) ?_; intro v1 w3 hr3 hg3 hb3))
          have HG := Lib.hid (imgs_snoc HIq.out HL.out (HSq.out.congr HE.out) HBn.out.size hwa hr3 hg3)
          have HB3 := Lib.hid ((HBn.out.alloc HBn.out.size _).trans hb3)
          obtain ⟨gv', cv', hv'⟩ := HG.out.2
          have HG2 := Lib.hid HG.out.1
          clear hr3 hg3 hb3 HG
          subst hv'
          go_wp2
          go_roundw
          case rel => exact ⟨bs ++ [wa.heap.size], k + 1, gv', cv', rfl, HG2.out, by simp [HL.out], fun_upto HK.out HN.out, HB3.out⟩
          case measure =>
            have hk2 := img_bound H.out.into h0 (fun_upto HK.out HN.out)
            simp [lenOf]; omega
      · intro x w3 hx hlx hsx hr3 hlt3 hg3 hz3 hen
        have HR3 := Lib.hid hr3
        have HB3 := Lib.hid (HBq.out.grown hg3 HBq.out.size (fun q hq => by cases hq; omega))
        have HS3 := Lib.hid (HSq.out.kept hg3 (by simp))
        have hcell := (H.out.keep (Below.step HB.out HB.out.size HB3.out)).cell x hx
        have hfx := H.out.into x hx
        have HL3 := Lib.hid hlt3
        have HZ3 := Lib.hid hz3
        clear hr3 hg3 hz3 hlt3
        go_wp2_with (at_mapUpdate; refine wpList_putS rfl _ _ _ rfl n wa.heap.size _ (f x) rfl rfl rfl HS3.out hfx h1 ?_; intro w4 hs4 hg4)
        have HR4 := Lib.hid (HR3.out.kept hg4 (by simp; omega) (by simp))
        have HB4 := Lib.hid (HB3.out.grown hg4 HB3.out.size (fun q hq => by cases hq; exact Nat.le_refl _))
        have HS4 := Lib.hid (part_step hx hsx hlx ▸ hs4)
        have HZ4 := Lib.hid (Nat.le_trans HZq.out (Nat.le_trans (Nat.le_of_eq HZ3.out.symm) hg4.size))
        clear hs4 hg4
        go_frame
        go_roundw
        case rel => exact ⟨_, HR4.out.1, HS4.out, HB4.out, HZ4.out⟩
        case measure => rw [HR4.out.2]; exact HL3.out

/-- The set of the numbers on cycles. -/
theorem onCycles_any (g n cap : Nat) (f : Nat → Nat) (w : World) (h : Mg w g n f) :
    Calls Try.prog 59 #[.slice (some ⟨g, 0, none⟩) n cap] w fun e w' => ∃ b, e = .returned (.map (some b)) ∧ w.heap.size ≤ b ∧ St w' n b (cyc f n) ∧ Below w.heap.size w w' := by
  have H := Lib.hid h
  have h0 := h.n0
  have h1 := h.n1
  clear h
  go_enter Try.func59, Try.ntmps59
  go_wp2_with fail
  refine (images_any g n cap f _ H.out).mono ?_
  rintro e w1 ⟨v, bs, k, rfl, hi, hl, hkn, hk, he, hb⟩
  obtain ⟨b, hbk⟩ : ∃ b, bs[k]? = some b := ⟨bs[k]'(by omega), by simp⟩
  obtain ⟨hC, hS⟩ := hi.2 k b hbk
  have HS := Lib.hid (hS.congr (img_stop H.out.into he))
  rcases hi.1.cases with ⟨_, h2⟩ | ⟨gv, cv, rfl⟩
  · exact absurd (congrArg List.length h2) (by rw [List.length_map, hl]; simp)
  have hcell : w1.cell? ⟨gv, k, none⟩ = some (.map (some b)) := by
    obtain ⟨_, _, _, _, _, hc, _⟩ := hi.1.at
    rw [hc k (by simp; omega)]
    obtain ⟨hk2, hk3⟩ := List.getElem?_eq_some_iff.1 hbk
    simp [hk3]
  have hlen : (bs.map fun b => Value.map (some b)).length = k + 1 := by simp [hl]
  rw [hlen]
  have HB := Lib.hid hb
  have HL := Lib.hid hl
  clear hi hl hk he hb hbk hS hlen
  go_wp2
  go_ret
  exact ⟨b, rfl, hC, HS.out, HB.out⟩

end Go.Proofs.Ytadjjmlneghklaa

/- from XME -/
namespace Go.Proofs.Ytadjjmlneghklaa
open Go.RowKit
set_option linter.unusedVariables false
set_option linter.unusedSimpArgs false
set_option maxRecDepth 100000

def nts (l : List Nat) : List Int := l.map fun (x : Nat) => (x : Int)
theorem nts_len (l : List Nat) : (nts l).length = l.length := by simp [nts]
theorem nts_snoc (l : List Nat) (x : Nat) : nts (l ++ [x]) = nts l ++ [(x : Int)] := by simp [nts]

theorem rd_not_set {w : World} {B n b : Nat} {v : Value} {xs : List Int} {s : Nat → Bool} (h : Rd w B v xs) (hs : St w n b s) : some b ≠ v.ownBlock := by
  refine row_not_set (e := 3) (B := B) (xs := xs.map (Value.int .i64)) ?_ hs
  unfold Rg
  rw [List.length_map]
  exact h


/-- A slice of slices: the outer one holds the values vs, which hold the lists ls, each in a block of its own. -/
structure LLv (w : World) (B : Nat) (v : Value) (vs : List Value) (ls : List (List Nat)) : Prop where
  row : Rg 33 w B v vs
  len : vs.length = ls.length
  at' : ∀ (i : Nat) (u : Value) (l : List Nat), vs[i]? = some u → ls[i]? = some l → Rd w B u (nts l)
  apart : ∀ (i j : Nat) (u z : Value), i < j → vs[i]? = some u → vs[j]? = some z → u.ownBlock = none ∨ u.ownBlock ≠ z.ownBlock

theorem LLv.rd {w : World} {B i : Nat} {v u : Value} {vs : List Value} {ls : List (List Nat)} (h : LLv w B v vs ls) (hi : vs[i]? = some u) : ∃ l, ls[i]? = some l ∧ Rd w B u (nts l) := by
  obtain ⟨h1, _⟩ := List.getElem?_eq_some_iff.1 hi
  have h2 : i < ls.length := by rw [← h.len]; exact h1
  exact ⟨ls[i], by simp [h2], h.at' i u _ hi (by simp [h2])⟩

theorem LLv.nil (w : World) (B : Nat) : LLv w B (.slice none 0 0) [] [] := ⟨Rg.nil _ _ _, rfl, fun i u l h => by simp at h, fun i j u z _ h => by simp at h⟩

theorem LLv.grown {w w' : World} {B : Nat} {v : Value} {vs : List Value} {ls : List (List Nat)} {row : Option Nat} (h : LLv w B v vs ls) (hg : w.grownBy w' row) (h1 : v.ownBlock = none ∨ v.ownBlock ≠ row) (h2 : ∀ (i : Nat) (u : Value), vs[i]? = some u → u.ownBlock = none ∨ u.ownBlock ≠ row) : LLv w' B v vs ls :=
  ⟨h.row.grown hg h1, h.len, fun i u l hu hl => (h.at' i u l hu hl).grown hg (h2 i u hu), h.apart⟩
theorem LLv.keep {w w' : World} {B : Nat} {v : Value} {vs : List Value} {ls : List (List Nat)} (h : LLv w B v vs ls) (hb : Below w.heap.size w w') : LLv w' B v vs ls :=
  ⟨h.row.keep hb, h.len, fun i u l hu hl => (h.at' i u l hu hl).keep hb, h.apart⟩
theorem LLv.mono {w : World} {B C : Nat} {v : Value} {vs : List Value} {ls : List (List Nat)} (h : LLv w B v vs ls) (hC : C ≤ B) : LLv w C v vs ls :=
  ⟨h.row.mono hC, h.len, fun i u l hu hl => (h.at' i u l hu hl).mono hC, h.apart⟩
theorem LLv.alloc {w : World} {B : Nat} {v : Value} {vs : List Value} {ls : List (List Nat)} (h : LLv w B v vs ls) (o : Obj) : LLv (w.alloc o) B v vs ls :=
  ⟨h.row.alloc o, h.len, fun i u l hu hl => (h.at' i u l hu hl).alloc o, h.apart⟩

theorem LLv.snoc {w w' : World} {B : Nat} {v v' u : Value} {vs : List Value} {ls : List (List Nat)} {l : List Nat} {o : Obj} (h : LLv w B v vs ls) (hu : Rd w B u (nts l)) (ha : ∀ (i : Nat) (z : Value), vs[i]? = some z → z.ownBlock = none ∨ z.ownBlock ≠ u.ownBlock)
    (hr : Rg 33 w' B v' (vs ++ [u])) (hg : (w.alloc o).grownBy w' v.ownBlock) : LLv w' B v' (vs ++ [u]) (ls ++ [l]) := by
  have h1 := h.alloc o
  have hu1 := hu.alloc o
  refine ⟨hr, by simp [h.len], fun i z m hz hm => ?_, fun i j z y hij hz hy => ?_⟩
  · by_cases hi : i < vs.length
    · rw [List.getElem?_append_left hi] at hz
      rw [List.getElem?_append_left (by rw [← h.len]; exact hi)] at hm
      have := h1.at' i z m hz hm
      exact this.grown hg (rd_not_row this h1.row)
    · rw [List.getElem?_append_right (by omega)] at hz
      rw [List.getElem?_append_right (by rw [← h.len]; omega)] at hm
      by_cases hi0 : i - vs.length = 0
      · rw [hi0] at hz
        rw [← h.len, hi0] at hm
        simp only [List.getElem?_cons_zero, Option.some.injEq] at hz hm
        subst hz; subst hm
        exact hu1.grown hg (rd_not_row hu1 h1.row)
      · rw [List.getElem?_eq_none (by simp; omega)] at hz
        cases hz
  · have hj : j < (vs ++ [u]).length := (List.getElem?_eq_some_iff.1 hy).1
    rw [List.length_append, List.length_singleton] at hj
    rw [List.getElem?_append_left (by omega)] at hz
    by_cases hj2 : j < vs.length
    · rw [List.getElem?_append_left hj2] at hy
      exact h.apart i j z y hij hz hy
    · obtain rfl : j = vs.length := by omega
      rw [List.getElem?_append_right (Nat.le_refl _), Nat.sub_self] at hy
      simp only [List.getElem?_cons_zero, Option.some.injEq] at hy
      subst hy
      exact ha i z hz

theorem cycsTo_len (f : Nat → Nat) (n k : Nat) : (cycsTo f n k).length ≤ k := by
  unfold cycsTo
  rw [List.length_map]
  have := List.length_filter_le (lead f n) (List.range k)
  rw [List.length_range] at this
  exact this

/-- The numbers on cycles that are left before x is looked at. -/
def leftB (f : Nat → Nat) (n x y : Nat) : Bool := cyc f n y && !seenB f n x y
/-- .. with the first j numbers of the cycle of x taken away. -/
def leftJ (f : Nat → Nat) (n x j y : Nat) : Bool := leftB f n x y && !(List.range j).any fun i => it f i x == y

theorem leftJ_zero (f : Nat → Nat) (n x : Nat) : leftJ f n x 0 = leftB f n x := by funext y; simp [leftJ]
theorem leftJ_step (f : Nat → Nat) (n x j : Nat) : adj (leftJ f n x j) (it f j x) false = leftJ f n x (j + 1) := by
  funext y
  unfold adj leftJ
  rw [List.range_succ, List.any_append]
  by_cases e : y = it f j x
  · subst e; simp
  · have e' : (it f j x == y) = false := beq_eq_false_iff_ne.2 (fun h => e h.symm)
    simp [e, e']

theorem leftJ_yes {f : Nat → Nat} {n x j : Nat} (h : Into f n) (hl : lead f n x = true) (hj : j < per f n x) : leftJ f n x j (it f j x) = true := by
  obtain ⟨hc, hmin⟩ := (lead_iff h).1 hl
  have hcj := cyc_it h hc j
  unfold leftJ leftB
  rw [hcj]
  have h1 : seenB f n x (it f j x) = false := by
    rw [Bool.eq_false_iff]
    intro hs
    unfold seenB at hs
    simp only [Bool.and_eq_true, List.any_eq_true, decide_eq_true_eq] at hs
    obtain ⟨_, z, hz, hlt⟩ := hs
    have := hmin z (rnd_trans h hc (mem_rnd.2 ⟨j, hj, rfl⟩) hz)
    omega
  rw [h1]
  simp only [Bool.not_false, Bool.and_true, Bool.true_and, Bool.not_eq_true', List.any_eq_false, beq_iff_eq]
  intro i hi
  rw [List.mem_range] at hi
  exact per_inj h hc hi hj

theorem leftJ_no {f : Nat → Nat} {n x : Nat} (h : Into f n) (hc : cyc f n x = true) : leftJ f n x (per f n x) (it f (per f n x) x) = false := by
  obtain ⟨p1, p2, p3, p4⟩ := per_spec h hc
  rw [p3]
  unfold leftJ
  rw [Bool.and_eq_false_iff]
  right
  simp only [Bool.not_eq_false', List.any_eq_true, beq_iff_eq]
  exact ⟨0, List.mem_range.2 p1, rfl⟩

theorem leftJ_end {f : Nat → Nat} {n x : Nat} (h : Into f n) (hx : x < n) (hc : cyc f n x = true) (y : Nat) : leftJ f n x (per f n x) y = leftB f n (x + 1) y := by
  unfold leftJ leftB
  have h1 : ((List.range (per f n x)).any fun i => it f i x == y) = decide (y ∈ rnd f n x) := by
    rw [Bool.eq_iff_iff, decide_eq_true_iff, mem_rnd, List.any_eq_true]
    simp
  have h2 : seenB f n (x + 1) y = (seenB f n x y || decide (y ∈ rnd f n x)) := by
    rw [Bool.eq_iff_iff, seenB_succ h hx]
    simp [hc]
  rw [h1, h2]
  cases cyc f n y <;> cases seenB f n x y <;> cases decide (y ∈ rnd f n x) <;> rfl

theorem leftB_skip {f : Nat → Nat} {n x : Nat} (h : Into f n) (hx : x < n) (hl : lead f n x = false) (y : Nat) : leftB f n x y = leftB f n (x + 1) y := by
  unfold leftB
  rw [seenB_skip h hx hl]

theorem rnd_take (f : Nat → Nat) (x j : Nat) : nts ((List.range (j + 1)).map fun i => it f i x) = nts ((List.range j).map fun i => it f i x) ++ [((it f j x : Nat) : Int)] := by
  rw [List.range_succ, List.map_append]; simp [nts]

end Go.Proofs.Ytadjjmlneghklaa

/- from XMF -/
namespace Go.Proofs.Ytadjjmlneghklaa
open Go.RowKit
set_option linter.unusedVariables false
set_option linter.unusedSimpArgs false
set_option maxRecDepth 100000

theorem LLv.app {w w' : World} {B D : Nat} {v u : Value} {vs : List Value} {ls : List (List Nat)} {xs : List Int} {o : Obj} (h : LLv w B v vs ls) (hu : Rd (w.alloc o) D u xs) (hD : ∀ (i : Nat) (z : Value), vs[i]? = some z → ∀ q, z.ownBlock = some q → q < D) (hg : (w.alloc o).grownBy w' u.ownBlock) : LLv w' B v vs ls := by
  refine (h.alloc o).grown hg (row_not_rd hu (h.alloc o).row) fun i z hz => ?_
  cases hq : z.ownBlock with
  | none => exact .inl rfl
  | some q =>
    right
    intro e
    have h1 := hD i z hz q hq
    have h2 := (hu.lt q e.symm).1
    omega

theorem LLv.put {w w' : World} {B n b : Nat} {v : Value} {vs : List Value} {ls : List (List Nat)} {s : Nat → Bool} (h : LLv w B v vs ls) (hs : St w n b s) (hg : w.grownBy w' (some b)) : LLv w' B v vs ls := by
  refine h.grown hg ?_ fun i z hz => ?_
  · exact .inr (fun e => row_not_set h.row hs e.symm)
  · obtain ⟨l, _, hr⟩ := h.rd hz
    exact .inr (fun e => rd_not_set hr hs e.symm)

theorem LLv.far {w : World} {D : Nat} {u : Value} {vs : List Value} {xs : List Int} {i : Nat} {z : Value} (hD : ∀ (i : Nat) (z : Value), vs[i]? = some z → ∀ q, z.ownBlock = some q → q < D) (hu : Rd w D u xs) (hi : vs[i]? = some z) : z.ownBlock = none ∨ z.ownBlock ≠ u.ownBlock := by
  cases hq : z.ownBlock with
  | none => exact .inl rfl
  | some q =>
    right
    intro e
    have h1 := hD i z hi q hq
    have h2 := (hu.lt q e.symm).1
    omega

theorem cycles_any (g n cap : Nat) (f : Nat → Nat) (w : World) (h : Mg w g n f) :
    Calls Try.prog 37 #[.slice (some ⟨g, 0, none⟩) n cap] w fun e w' => ∃ v vs, e = .returned v ∧ LLv w' w.heap.size v vs (cycs f n) ∧ Below w.heap.size w w' := by
  have H := Lib.hid h
  have h0 := h.n0
  have h1 := h.n1
  clear h
  go_enter Try.func37, Try.ntmps37
  go_wp2_with fail
  refine (onCycles_any g n cap f _ H.out).mono ?_
  rintro e w1 ⟨b, rfl, hCb, hs, hb⟩
  have HS1 := Lib.hid hs
  have HB1 := Lib.hid hb
  clear hs hb
  go_wp2
  go_loopw [3, 12] (fun v i wr => ∃ (k : Nat) (vs : List Value), k ≤ n ∧ i = .int .i64 k ∧ LLv wr w.heap.size v vs (cycsTo f n k) ∧ St wr n b (leftB f n k) ∧ Below w.heap.size w wr) (fun _ i _ => n - (intOf i).toNat)
  case atStart => exact ⟨0, [], Nat.zero_le _, rfl, LLv.nil _ _, HS1.out.congr (fun x _ => by simp [leftB, seenB_zero]), HB1.out⟩
  case round =>
    rename World => wa
    obtain ⟨k, vs, hk, rfl, hv, hs, hb⟩ := hrel
    have HV := Lib.hid hv
    have HS := Lib.hid hs
    have HB := Lib.hid hb
    clear hv hs hb
    by_cases hlt : k < n
    · have hlead := lead_seen (x := k) H.out.into
      cases hl : lead f n k
      · have hq : leftB f n k k = false := by rw [← hl, hlead]; rfl
        have HE := Lib.hid (fun y => leftB_skip H.out.into hlt hl y)
        have HC := Lib.hid (show cycsTo f n (k + 1) = cycsTo f n k by rw [cycsTo_succ, if_neg (by rw [hl]; simp)])
        clear hl hlead
        go_wp2_with (at_lookup; refine wpList_lookS rfl _ _ rfl n b _ k rfl rfl HS.out hlt h1 ?_; rw [hq])
        go_roundw
        case rel => exact ⟨k + 1, vs, by omega, by go_num, by rw [HC.out]; exact HV.out, HS.out.congr (fun x _ => HE.out x), HB.out⟩
        case measure => simp [intOf]; omega
      · have hq : leftB f n k k = true := by rw [← hl, hlead]; rfl
        have hck := ((lead_iff H.out.into).1 hl).1
        have HLD := Lib.hid hl
        have HCK := Lib.hid hck
        have HP := Lib.hid (per_spec H.out.into hck)
        obtain ⟨p, hp⟩ : ∃ p, p = per f n k := ⟨_, rfl⟩
        rw [← hp] at HP
        have HPE := Lib.hid hp
        have hp1 := HP.out.1
        have hp2 := HP.out.2.1
        have HC := Lib.hid (show cycsTo f n (k + 1) = cycsTo f n k ++ [rnd f n k] by rw [cycsTo_succ, if_pos hl])
        have HR0 := Lib.hid (show rnd f n k = (List.range p).map fun i => it f i k by unfold rnd; rw [hp])
        have HVL := Lib.hid (fun (i : Nat) (u : Value) (hi : vs[i]? = some u) => let ⟨l, _, hr⟩ := HV.out.rd hi; fun q hq => (hr.lt q hq).2)
        have HBb := Lib.hid hCb
        clear hl hlead hck hp
        go_wp2_with (at_lookup; refine wpList_lookS rfl _ _ rfl n b _ k rfl rfl HS.out hlt h1 ?_; rw [hq])
        go_loopw [6, 7] (fun u y wr => ∃ (j : Nat), j ≤ p ∧ y = .int .i64 ((it f j k : Nat) : Int) ∧ Rd wr wa.heap.size u (nts ((List.range j).map fun i => it f i k)) ∧ St wr n b (leftJ f n k j) ∧ LLv wr w.heap.size u3 vs (cycsTo f n k) ∧ Below w.heap.size w wr ∧ wa.heap.size ≤ wr.heap.size ∧ lenOf u = j) (fun u _ _ => p - lenOf u)
        case atStart => exact ⟨0, Nat.zero_le _, rfl, Rd.nil _ _, by rw [leftJ_zero]; exact HS.out, HV.out, HB.out, Nat.le_refl _, rfl⟩
        case round =>
          obtain ⟨j, hj, rfl, hr, hs, hv, hb, hz, hlen⟩ := hrel
          have HRj := Lib.hid hr
          have HSj := Lib.hid hs
          have HVj := Lib.hid hv
          have HBj := Lib.hid hb
          have HZ := Lib.hid hz
          have HLN := Lib.hid hlen
          have HWA := Lib.hid HB.out.size
          clear hr hs hv hb hz hlen
          have hy := it_lt H.out.into j hlt
          obtain ⟨y, hyy⟩ : ∃ y, y = it f j k := ⟨_, rfl⟩
          have HY := Lib.hid hyy
          rw [← hyy] at hy ⊢
          clear hyy
          by_cases hjp : j < p
          · have hq2 : leftJ f n k j y = true := by rw [HY.out]; exact leftJ_yes H.out.into HLD.out (by rw [← HPE.out]; exact hjp)
            go_wp2_with (first | (at_lookup; refine wpList_lookS rfl _ _ rfl n b _ y rfl rfl HSj.out hy h1 ?_; rw [hq2]) | (at_builtin; refine wpList_appR rfl _ _ rfl wa.heap.size wa.heap.size _ _ (nts ((List.range j).map fun i => it f i k)) [(y : Int)] rfl rfl (HRj.out.alloc _) (Rd.litB _ _ _ HZ.out) (by rw [nts_len]; simp; omega) (by have := HZ.out; simp; omega) ?_; intro v1 w3 hr3 hg3 hb3; have HR3 := Lib.hid hr3); have HS3 := Lib.hid ((HSj.out.alloc (.cells #[.int .i64 (y : Int)] 3)).kept hg3 (rd_not_set (HRj.out.alloc (.cells #[.int .i64 (y : Int)] 3)) (HSj.out.alloc (.cells #[.int .i64 (y : Int)] 3)))); have HV3 := Lib.hid (LLv.app HVj.out (HRj.out.alloc (.cells #[.int .i64 (y : Int)] 3)) HVL.out hg3); have HB3 := Lib.hid ((HBj.out.alloc HBj.out.size _).trans (hb3.mono HWA.out)); have HZ3 := Lib.hid (Nat.le_trans HZ.out (Nat.le_trans (Nat.le_of_lt (by simp)) hg3.size)); clear hr3 hg3 hb3 | (at_delete; refine wpList_delS rfl _ _ rfl n b _ y rfl rfl HS3.out hy h1 ?_; intro w4 hs4 hg4; have hcell := (H.out.keep (HB3.out.grown hg4 HB3.out.size (fun q hq => by cases hq; exact HBb.out))).cell y hy))
            have HR4 := Lib.hid (HR3.out.grown hg4 (.inr (fun e => rd_not_set HR3.out HS3.out e.symm)))
            have HS4 := Lib.hid (leftJ_step f n k j ▸ HY.out ▸ hs4)
            have HV4 := Lib.hid (HV3.out.put HS3.out hg4)
            have HB4 := Lib.hid (HB3.out.grown hg4 HB3.out.size (fun q hq => by cases hq; exact HBb.out))
            have HZ4 := Lib.hid (Nat.le_trans HZ3.out hg4.size)
            have HL4 := Lib.hid (lenOf_rd HR3.out)
            have HTK := Lib.hid (rnd_take f k j)
            clear hs4 hg4
            go_wp2
            go_roundw
            case rel => exact ⟨j + 1, by omega, by rw [HY.out]; rfl, by rw [HTK.out, ← HY.out]; exact HR4.out, HS4.out, HV4.out, HB4.out, HZ4.out, by rw [HL4.out]; simp [nts]⟩
            case measure => rw [HL4.out, HLN.out]; simp [nts]; omega
          · obtain rfl : j = p := by omega
            have hq2 : leftJ f n k j y = false := by rw [HY.out, HPE.out]; exact leftJ_no H.out.into HCK.out
            have HJE := Lib.hid (show ∀ z, leftJ f n k j z = leftB f n (k + 1) z from fun z => by rw [HPE.out]; exact leftJ_end H.out.into hlt HCK.out z)
            have hnl : (nts ((List.range j).map fun i => it f i k)).length = j := by simp [nts]
            obtain ⟨gu, cu, hu⟩ : ∃ gu cu, u6 = .slice (some ⟨gu, 0, none⟩) j cu := by
              rcases HRj.out.cases with ⟨_, hx⟩ | ⟨gu, cu, hu, _⟩
              · rw [hx] at hnl; simp at hnl; omega
              · rw [hnl] at hu; exact ⟨gu, cu, hu⟩
            subst hu
            clear hnl
            have HVL2 := Lib.hid (show vs.length ≤ 100000 by have h2 := cycsTo_len f n k; rw [← HVj.out.len] at h2; omega)
            go_wp2_with (first | (at_lookup; refine wpList_lookS rfl _ _ rfl n b _ y rfl rfl HSj.out hy h1 ?_; rw [hq2]) | (at_builtin; refine wpList_appG rfl _ _ _ 33 (.slice none 0 0) 24 Try.underlying28 infoL (by omega) rfl rfl w.heap.size w.heap.size u3 _ vs [.slice (some ⟨gu, 0, none⟩) j cu] rfl rfl (HVj.out.row.alloc _) (Rg.lit _ _ _ _ HBj.out.size) (by simp [Value.oneCell']) (by have := HVL2.out; simp; omega) (by have := HBj.out.size; simp; omega) ?_; intro v1 w3 hr3 hg3 hb3))
            have HV3 := Lib.hid (HVj.out.snoc (o := .cells #[.slice (some ⟨gu, 0, none⟩) j cu] 33) (HRj.out.mono HWA.out) (fun i z hi => LLv.far HVL.out HRj.out hi) hr3 hg3)
            have HS3 := Lib.hid (((HSj.out.congr (t := leftB f n (k + 1)) (fun z _ => HJE.out z)).alloc (.cells #[.slice (some ⟨gu, 0, none⟩) j cu] 33)).kept hg3 (row_not_set HVj.out.row HSj.out))
            have HB3 := Lib.hid ((HBj.out.alloc HBj.out.size _).trans hb3)
            clear hr3 hg3 hb3
            go_wp2
            go_roundw
            case rel => exact ⟨k + 1, _, by omega, by go_num, by rw [HC.out, HR0.out]; exact HV3.out, HS3.out, HB3.out⟩
            case measure => simp [intOf]; omega
    · obtain rfl : k = n := by omega
      go_wp2
      go_ret
      exact ⟨_, vs, rfl, HV.out, HB.out⟩

end Go.Proofs.Ytadjjmlneghklaa
