/-
  Joint text of FA FB FC FD FE FF FG FH FI FJ FK FL FM (written by wip/tools/merge.py).
-/
import Derived.Test.YtnniiobiedfmoaaPW
import Derived.Maps.OwnSet
import Derived.Maps.RangeWalk
import Derived.Test.YtnniiobiedfmoaaUJ
import Derived.Test.YtnniiobiedfmoaaUE
import Derived.Test.YtnniiobiedfmoaaK
import Derived.Test.YtnniiobiedfmoaaUD
import Derived.Test.YtnniiobiedfmoaaUF
import Derived.Test.YtnniiobiedfmoaaV9
import Derived.BigQuiet
/- from XFA -/
namespace Go.Proofs.Ytnniiobiedfmoaa
open Go.RowKit
open Go.Maps (Keyed IsMap Tidy)
set_option linter.unusedVariables false
set_option linter.unusedSimpArgs false
set_option maxRecDepth 100000

/-- How many of the numbers below n are in a set. -/
def cnt3 (n : Nat) (s : Nat → Bool) : Nat := ((List.range n).filter s).length

theorem cnt_succ (n : Nat) (s : Nat → Bool) : cnt3 (n + 1) s = cnt3 n s + if s n = true then 1 else 0 := by
  unfold cnt3
  rw [List.range_succ, List.filter_append, List.length_append]
  by_cases h : s n = true <;> simp [h]
theorem cnt_le (n : Nat) (s : Nat → Bool) : cnt3 n s ≤ n := by
  have := List.length_filter_le s (List.range n)
  rw [List.length_range] at this
  exact this
theorem cnt_congr {n : Nat} {s t : Nat → Bool} (h : ∀ x, x < n → s x = t x) : cnt3 n s = cnt3 n t := by
  unfold cnt3
  rw [List.filter_congr fun x hx => h x (List.mem_range.1 hx)]
theorem cnt_none (n : Nat) : cnt3 n (fun _ => false) = 0 := by simp [cnt3]
theorem cnt_all (n : Nat) : cnt3 n (fun x => decide (x < n)) = n := by
  unfold cnt3
  rw [List.filter_eq_self.2 (fun x hx => by simpa using hx), List.length_range]

def adj (s : Nat → Bool) (x : Nat) (q : Bool) : Nat → Bool := fun y => if y = x then q else s y

theorem cnt_add (s : Nat → Bool) (x : Nat) : ∀ n, x < n → cnt3 n (adj s x true) = if s x = true then cnt3 n s else cnt3 n s + 1
  | 0, h => absurd h (Nat.not_lt_zero _)
  | n + 1, h => by
    rw [cnt_succ, cnt_succ]
    by_cases e : x = n
    · subst e
      have h1 : cnt3 x (adj s x true) = cnt3 x s := cnt_congr fun y hy => by simp [adj, Nat.ne_of_lt hy]
      rw [h1]
      by_cases hs : s x = true <;> simp [adj, hs]
    · have h1 := cnt_add s x n (by omega)
      have e' : ¬ n = x := fun h => e h.symm
      rw [h1]
      by_cases hs : s x = true <;> by_cases ht : s n = true <;> simp [adj, hs, ht, e'] <;> omega

theorem cnt_del (s : Nat → Bool) (x : Nat) : ∀ n, x < n → cnt3 n (adj s x false) + (if s x = true then 1 else 0) = cnt3 n s
  | 0, h => absurd h (Nat.not_lt_zero _)
  | n + 1, h => by
    rw [cnt_succ, cnt_succ]
    by_cases e : x = n
    · subst e
      have h1 : cnt3 x (adj s x false) = cnt3 x s := cnt_congr fun y hy => by simp [adj, Nat.ne_of_lt hy]
      rw [h1]
      simp [adj]
    · have h1 := cnt_del s x n (by omega)
      have e' : ¬ n = x := fun h => e h.symm
      by_cases ht : s n = true <;> simp [adj, ht, e'] at h1 ⊢ <;> omega

noncomputable abbrev RB : Value → Option (DataW Unit × List MemPlace) := plainElem Try.prog 4
theorem kI : Keyed Try.prog 3 := Go.Maps.int_keyed Try.underlying3
theorem zeroB (w : World) : (zeroValue 4).run Try.prog w = .ok (.bool false) w := by kernel_rfl

theorem rb_inv {v : Value} {z : DataW Unit × List MemPlace} (h : RB v = some z) : ∃ q, v = .bool q ∧ z = (.lit (.bool q), []) := by
  unfold RB plainElem at h
  rw [Try.underlying4] at h
  cases v <;> simp at h
  exact ⟨_, rfl, h.symm⟩

abbrev kx (x : Nat) : Lit := .int .i64 (x : Int)
theorem kx_inj {x y : Nat} (h : kx x = kx y) : x = y := by simp only [kx, Lit.int.injEq, true_and] at h; omega
theorem kx_key (x : Nat) (h : x < 40000) : keyOf Try.prog 3 (.int .i64 (x : Int)) = some (kx x) :=
  Go.Maps.keyOf_int_mk Try.underlying3 (WalkArith.wf_i64 (by omega))

/-- A datum that holds the set s, each number with the element true. -/
structure SD (D : DataW Unit) (n : Nat) (s : Nat → Bool) : Prop where
  size : Maps.size D = cnt3 n s
  has : ∀ x : Nat, x < n → Maps.has D (kx x) = s x
  at' : ∀ x : Nat, x < n → D.atKey (kx x) (.lit (.bool false)) = .lit (.bool (s x))
  only : ∀ kl, Maps.has D kl = true → ∃ x : Nat, x < n ∧ kl = kx x

/-- Block b is a map of the call's that is the set s. -/
def St (w : World) (n b : Nat) (s : Nat → Bool) : Prop := ∃ D : DataW Unit, w.ownsMap Try.prog 3 RB b (cnt3 n s) D ∧ SD D n s

theorem tight {w : World} {b k : Nat} {D : DataW Unit} (h : w.ownsMap Try.prog 3 RB b k D) : w.ownsMap Try.prog 3 RB b (Maps.size D) D := by
  obtain ⟨es, clock, hb, F, hs, rfl⟩ := h
  refine ⟨es, clock, hb, F, ?_, rfl⟩
  simp [Maps.size, length_sorted]

theorem St.lt {w : World} {n b : Nat} {s : Nat → Bool} (h : St w n b s) : b < w.heap.size := by obtain ⟨D, h1, _⟩ := h; exact h1.lt
theorem St.kept {w w' : World} {n b : Nat} {s : Nat → Bool} {row : Option Nat} (h : St w n b s) (hg : w.grownBy w' row) (hne : some b ≠ row) : St w' n b s := by
  obtain ⟨D, h1, h2⟩ := h; exact ⟨D, h1.kept hg hne, h2⟩
theorem St.keep {w w' : World} {n b : Nat} {s : Nat → Bool} (h : St w n b s) (hb : Below w.heap.size w w') : St w' n b s := by
  obtain ⟨D, h1, h2⟩ := h
  have hl := h1.lt
  obtain ⟨es, clock, hbb, F, hs, hD⟩ := h1
  exact ⟨D, ⟨es, clock, by rw [hb.block b hl]; exact hbb, F, hs, hD⟩, h2⟩
theorem St.keepB {w w' : World} {C n b : Nat} {s : Nat → Bool} (h : St w n b s) (hb : Below C w w') (hl : b < C) : St w' n b s := by
  obtain ⟨D, h1, h2⟩ := h
  obtain ⟨es, clock, hbb, F, hs, hD⟩ := h1
  exact ⟨D, ⟨es, clock, by rw [hb.block b hl]; exact hbb, F, hs, hD⟩, h2⟩
theorem St.alloc {w : World} {n b : Nat} {s : Nat → Bool} (h : St w n b s) (o : Obj) : St (w.alloc o) n b s := by
  obtain ⟨D, h1, h2⟩ := h; exact ⟨D, h1.alloc o, h2⟩
theorem St.drew {w : World} {n b : Nat} {s : Nat → Bool} (h : St w n b s) : St w.drew n b s := h

theorem SD.congr {D : DataW Unit} {n : Nat} {s t : Nat → Bool} (h : SD D n s) (he : ∀ x, x < n → s x = t x) : SD D n t :=
  ⟨by rw [h.size, cnt_congr he], fun x hx => by rw [h.has x hx, he x hx], fun x hx => by rw [h.at' x hx, he x hx], h.only⟩
theorem St.congr {w : World} {n b : Nat} {s t : Nat → Bool} (h : St w n b s) (he : ∀ x, x < n → s x = t x) : St w n b t := by
  obtain ⟨D, h1, h2⟩ := h
  exact ⟨D, by rw [← cnt_congr he]; exact h1, h2.congr he⟩

theorem St.made (w : World) (n : Nat) : St (w.alloc (.map #[] 0)) n w.heap.size (fun _ => false) :=
  ⟨_, by rw [cnt_none]; exact World.ownsMap_made w _ _ _, by rw [cnt_none]; rfl, fun x _ => rfl, fun x _ => rfl, fun kl h => by cases h⟩

theorem SD.put {D : DataW Unit} {n : Nat} {s : Nat → Bool} (h : SD D n s) (hT : Tidy D) {x : Nat} (hx : x < n) (hk : WideAt.IsKeyLit (kx x)) : SD (D.put (kx x) (.lit (.bool true))) n (adj s x true) := by
  refine ⟨?_, fun y hy => ?_, fun y hy => ?_, fun kl hkl => ?_⟩
  · rw [Maps.size_put hT, h.has x hx, h.size, cnt_add s x n hx]
  · by_cases e : y = x
    · subst e; rw [Maps.has_put_same hT.isMap hk]; simp [adj]
    · rw [Maps.has_put_other (fun he => e (kx_inj he)), h.has y hy]; simp [adj, e]
  · by_cases e : y = x
    · subst e; rw [Maps.atKey_put_same hT.isMap hk]; simp [adj]
    · rw [Maps.atKey_put_other (fun he => e (kx_inj he)), h.at' y hy]; simp [adj, e]
  · by_cases e : kl = kx x
    · exact ⟨x, hx, e⟩
    · rw [Maps.has_put_other e] at hkl; exact h.only kl hkl

theorem SD.del {D : DataW Unit} {n : Nat} {s : Nat → Bool} (h : SD D n s) (hT : Tidy D) {x : Nat} (hx : x < n) (hk : WideAt.IsKeyLit (kx x)) : SD (D.del (kx x)) n (adj s x false) := by
  refine ⟨?_, fun y hy => ?_, fun y hy => ?_, fun kl hkl => ?_⟩
  · have h1 := Maps.size_del (k := kx x) hT
    have h2 := cnt_del s x n hx
    rw [h.has x hx, h.size] at h1
    omega
  · by_cases e : y = x
    · subst e; rw [Maps.has_del_same]; simp [adj]
    · rw [Maps.has_del_other (fun he => e (kx_inj he)), h.has y hy]; simp [adj, e]
  · by_cases e : y = x
    · subst e; rw [Maps.atKey_del_same]; simp [adj]
    · rw [Maps.atKey_del_other (fun he => e (kx_inj he)), h.at' y hy]; simp [adj, e]
  · by_cases e : kl = kx x
    · exact ⟨x, hx, e⟩
    · rw [Maps.has_del_other e] at hkl; exact h.only kl hkl

end Go.Proofs.Ytnniiobiedfmoaa

/- from XFB -/
namespace Go.Proofs.Ytnniiobiedfmoaa
open Go.RowKit
open Go.Maps (Keyed IsMap Tidy)
set_option linter.unusedVariables false
set_option linter.unusedSimpArgs false
set_option maxRecDepth 100000

section
variable {w : World} {ops : Array Oper} {rest : List Oper} {o : Oper} {a : Act} {Q : Exit → Act → World → Prop}

/-- 'set[x] = true'. -/
theorem wpList_putS (hg : o.guard = none) (m x v : Operand) (hop : o.op = Op.mapUpdate 92 m x v) (n b : Nat) (s : Nat → Bool) (y : Nat)
    (hm : a.eval m = .map (some b)) (hx : a.eval x = .int .i64 (y : Int)) (hv : a.eval v = .bool true) (hs : St w n b s) (hy : y < n) (hn : n ≤ 40000)
    (h : ∀ w', St w' n b (adj s y true) → w.grownBy w' (some b) → wpList Try.prog ops Q rest (a.put o.dst undef) w') : wpList Try.prog ops Q (o :: rest) a w := by
  obtain ⟨D, hD, hS⟩ := hs
  have hc := cnt_le n s
  refine wpList_mapUpdate_own w hg m x v 92 hop 3 4 kI Try.underlying92 RB b (cnt3 n s) D hm hD (by unfold maxLen; omega) _ _ (kx y) hx hv (kx_key y (by omega)) (.lit (.bool true)) [] (plainElem_bool Try.underlying4 true) ?_
  intro w' h1 h2
  have h3 := hS.put (hD.tidy kI) hy trivial
  refine h w' ⟨_, ?_, h3⟩ h2
  rw [← h3.size]
  exact tight h1

/-- 'set[x]'. -/
theorem wpList_lookS (hg : o.guard = none) (m x : Operand) (hop : o.op = Op.lookup 92 m x false) (n b : Nat) (s : Nat → Bool) (y : Nat)
    (hm : a.eval m = .map (some b)) (hx : a.eval x = .int .i64 (y : Int)) (hs : St w n b s) (hy : y < n) (hn : n ≤ 40000)
    (h : wpList Try.prog ops Q rest (a.put o.dst (.bool (s y))) w) : wpList Try.prog ops Q (o :: rest) a w := by
  obtain ⟨D, hD, hS⟩ := hs
  refine wpList_plain hg fun K' hK' => ?_
  obtain ⟨v, ps, hrun, hv⟩ := hD.lookup kI Try.underlying92 (zeroB w) (plainElem_bool Try.underlying4 false) (kx_key y (by omega))
  obtain ⟨q, rfl, hq⟩ := rb_inv hv
  have he := hS.at' y hy
  have hq2 := congrArg Prod.fst hq
  simp only at hq2
  rw [he] at hq2
  simp only [DataW.lit.injEq, Lit.bool.injEq] at hq2
  subst hq2
  unfold Oper.wp
  simp [execOp, hop, hm, hx, hrun, Result.andThen]
  exact hK' _ _ h

/-- 'delete(set, x)'. -/
theorem wpList_delS (hg : o.guard = none) (m x : Operand) (hop : o.op = Op.call { callee := Callee.builtin Builtin.delete, args := #[m, x], argTypes := #[92, 3] }) (n b : Nat) (s : Nat → Bool) (y : Nat)
    (hm : a.eval m = .map (some b)) (hx : a.eval x = .int .i64 (y : Int)) (hs : St w n b s) (hy : y < n) (hn : n ≤ 40000)
    (h : ∀ w', St w' n b (adj s y false) → w.grownBy w' (some b) → wpList Try.prog ops Q rest (a.put o.dst (.tuple #[])) w') : wpList Try.prog ops Q (o :: rest) a w := by
  obtain ⟨D, hD, hS⟩ := hs
  refine wpList_delete_own w hg m x 92 3 hop 4 kI Try.underlying92 RB b (cnt3 n s) D hm hD _ (kx y) hx (kx_key y (by omega)) ?_
  intro w' h1 h2
  have h3 := hS.del (hD.tidy kI) hy trivial
  refine h w' ⟨_, ?_, h3⟩ h2.grown
  rw [← h3.size]
  exact tight h1

/-- 'len(set)'. -/
theorem wpList_lenS (hg : o.guard = none) (m : Operand) (hop : o.op = Op.call { callee := Callee.builtin Builtin.len, args := #[m], argTypes := #[92] }) (n b : Nat) (s : Nat → Bool)
    (hm : a.eval m = .map (some b)) (hs : St w n b s) (h : wpList Try.prog ops Q rest (a.put o.dst (.int .i64 (cnt3 n s : Nat))) w) : wpList Try.prog ops Q (o :: rest) a w := by
  obtain ⟨D, hD, hS⟩ := hs
  refine wpList_len_own w hg m 92 hop 3 4 Try.underlying92 RB b (cnt3 n s) D hm hD ?_
  rw [hS.size]
  exact h

/-- A range over the set in block b is under way, its iterator in block r; the numbers in l are still to come. -/
def Ran (w : World) (n b r : Nat) (s l : Nat → Bool) : Prop := ∃ (D : DataW Unit) (left : Lit → Bool) (c : Nat), w.ranges Try.prog 3 RB b r (cnt3 n s) D left c ∧ SD D n s ∧ (∀ x : Nat, x < n → left (kx x) = l x) ∧ ∀ kl, left kl = true → ∃ x : Nat, x < n ∧ kl = kx x

theorem Ran.st {n b r : Nat} {s l : Nat → Bool} (h : Ran w n b r s l) : St w n b s := by obtain ⟨D, left, c, h1, h2, _⟩ := h; exact ⟨D, h1.owns, h2⟩
theorem Ran.lt {n b r : Nat} {s l : Nat → Bool} (h : Ran w n b r s l) : r < w.heap.size := by obtain ⟨D, left, c, h1, h2, _⟩ := h; exact h1.lt
theorem Ran.kept {w' : World} {n b r : Nat} {s l : Nat → Bool} {row : Option Nat} (h : Ran w n b r s l) (hg : w.grownBy w' row) (hb : some b ≠ row) (hr : some r ≠ row) : Ran w' n b r s l ∧ w'.rangeLeft b r = w.rangeLeft b r := by
  obtain ⟨D, left, c, h1, h2⟩ := h
  have h3 := h1.kept hg hb hr
  exact ⟨⟨D, left, c, h3, h2⟩, by rw [h3.left_eq, h1.left_eq]⟩
theorem Ran.alloc {n b r : Nat} {s l : Nat → Bool} (h : Ran w n b r s l) (o : Obj) : Ran (w.alloc o) n b r s l := (h.kept (World.grownBy_alloc w o none) (by simp) (by simp)).1

/-- 'range set'. -/
theorem wpList_rangeS (hg : o.guard = none) (m : Operand) (hop : o.op = Op.range 92 m) (n b : Nat) (s : Nat → Bool) (hm : a.eval m = .map (some b)) (hs : St w n b s)
    (h : ∀ w', Ran w' n b w.heap.size s s → w.grownBy w' none → w'.heap.size = w.heap.size + 1 → wpList Try.prog ops Q rest (a.put o.dst (.pointer (some ⟨w.heap.size, 0, none⟩))) w') : wpList Try.prog ops Q (o :: rest) a w := by
  obtain ⟨D, hD, hS⟩ := hs
  refine wpList_range_own w hg m 92 hop 3 4 kI Try.underlying92 RB b (cnt3 n s) D hm hD ?_
  intro w' h1 h2 h3
  exact h w' ⟨D, _, _, h1, hS, hS.has, hS.only⟩ h2 h3

/-- The step of a range. -/
theorem wpList_nextS (hg : o.guard = none) (it : Operand) (hop : o.op = Op.next it false) (n b r : Nat) (s l : Nat → Bool) (hit : a.eval it = .pointer (some ⟨r, 0, none⟩)) (hr : Ran w n b r s l)
    (hDone : (∀ x, x < n → l x = false) → wpList Try.prog ops Q rest (a.put o.dst (.tuple #[.bool false])) w)
    (hMore : ∀ (x : Nat) (w' : World), x < n → l x = true → s x = true → Ran w' n b r s (adj l x false) → w'.rangeLeft b r < w.rangeLeft b r → w.grownBy w' (some r) → w'.heap.size = w.heap.size →
      (Instr.entry (.pointer (some ⟨r, 0, none⟩))).run Try.prog w' = .ok (.tuple #[.int .i64 (x : Int), .bool true]) w' → wpList Try.prog ops Q rest (a.put o.dst (.tuple #[.bool true, .int .i64 (x : Int), .bool true])) w') :
    wpList Try.prog ops Q (o :: rest) a w := by
  obtain ⟨D, left, c, h1, h2, h3, h4⟩ := hr
  refine wpList_next_ranges (α := Int) (β := Bool) w hg it hop 3 kI RB (Value.int .i64) Value.bool (fun key kl hkey => by obtain ⟨x, rfl, _⟩ := Go.Maps.keyOf_int_inv Try.underlying3 hkey; exact ⟨x, rfl⟩) (fun v y hv => by obtain ⟨q, rfl, _⟩ := rb_inv hv; exact ⟨q, rfl⟩)
    b r (cnt3 n s) D left c hit h1 (fun _ hl => hDone (fun x hx => by rw [← h3 x hx]; exact hl _)) ?_
  intro x q kl y w' cnt' hkey hlk hv hat hrg hlt hgr hsz hen
  obtain ⟨x', e1, e2, _⟩ := Go.Maps.keyOf_int_inv Try.underlying3 hkey
  cases e1
  subst e2
  obtain ⟨z, hz, hez⟩ := h4 _ hlk
  have hxz : x = (z : Int) := by simpa [kx] using hez
  subst hxz
  have hl : l z = true := by rw [← h3 z hz]; exact hlk
  have hy := hat (.lit (.bool false))
  rw [h2.at' z hz] at hy
  have hy2 := hat (.lit (.bool true))
  have hsz' : s z = true := by
    by_cases hsz2 : s z = true
    · exact hsz2
    · exfalso
      have hf : s z = false := by simpa using hsz2
      have hh := h2.has z hz
      rw [hf] at hh
      rw [Go.Maps.atKey_of_not_has hh] at hy2
      rw [hf, ← hy2] at hy
      simp at hy
  obtain ⟨q', e3, e4⟩ := rb_inv hv
  simp only [Value.bool.injEq] at e3
  subst e3
  rw [e4, hsz'] at hy
  simp only [DataW.lit.injEq, Lit.bool.injEq] at hy
  subst hy
  refine hMore z w' hz hl hsz' ⟨D, _, cnt', hrg, h2, fun u hu => ?_, fun kl hkl => ?_⟩ (by rw [hrg.left_eq, h1.left_eq]; exact hlt) hgr hsz hen
  · by_cases e : u = z
    · subst e
      simp [adj, kx, Lit.sameKey]
    · have : (kx u).sameKey (kx z) = false := Go.Maps.sameKey_ne (fun he => e (kx_inj he))
      simp [this, adj, e, h3 u hu]
  · simp only [Bool.and_eq_true] at hkl
    exact h4 kl hkl.1

end

end Go.Proofs.Ytnniiobiedfmoaa

/- from XFC -/
namespace Go.Proofs.Ytnniiobiedfmoaa
open Go.RowKit
set_option linter.unusedVariables false
set_option linter.unusedSimpArgs false
set_option maxRecDepth 100000


def lenOf : Value → Nat
  | .slice _ n _ => n
  | _ => 0

theorem lenOf_rd {w : World} {B : Nat} {v : Value} {xs : List Int} (h : Rd w B v xs) : lenOf v = xs.length := by
  rcases h.cases with ⟨rfl, rfl⟩ | ⟨g, cap, rfl, _⟩ <;> rfl


/-- A map of up to 40000 numbers that lies in a block of its own from place 0 on. -/
structure Mg (w : World) (g n : Nat) (f : Nat → Nat) : Prop where
  lt : g < w.heap.size
  cell : ∀ j, j < n → w.cell? ⟨g, j, none⟩ = some (.int .i64 ((f j : Nat) : Int))
  into : Into f n
  n0 : 1 ≤ n
  n1 : n ≤ 40000

theorem Mg.keep {w w' : World} {g n : Nat} {f : Nat → Nat} (h : Mg w g n f) (hb : Below w.heap.size w w') : Mg w' g n f :=
  ⟨Nat.lt_of_lt_of_le h.lt hb.size, fun j hj => (hb.cell (p := ⟨g, j, none⟩) h.lt).trans (h.cell j hj), h.into, h.n0, h.n1⟩
theorem Mg.keepB {w w' : World} {C g n : Nat} {f : Nat → Nat} (h : Mg w g n f) (hb : Below C w w') (hg : g < C) (hs : w.heap.size ≤ w'.heap.size) : Mg w' g n f :=
  ⟨Nat.lt_of_lt_of_le h.lt hs, fun j hj => (hb.cell (p := ⟨g, j, none⟩) hg).trans (h.cell j hj), h.into, h.n0, h.n1⟩
theorem Mg.drew {w : World} {g n : Nat} {f : Nat → Nat} (h : Mg w g n f) : Mg w.drew g n f := ⟨h.lt, h.cell, h.into, h.n0, h.n1⟩

/-- The numbers to which k steps lead. -/
def img (f : Nat → Nat) (n k y : Nat) : Bool := (List.range n).any fun x => it f k x == y
theorem img_iff {f : Nat → Nat} {n k y : Nat} : img f n k y = true ↔ ∃ x, x < n ∧ it f k x = y := by simp [img]
theorem img_cyc (f : Nat → Nat) (n : Nat) : img f n n = cyc f n := rfl
theorem img_zero {f : Nat → Nat} {n y : Nat} (h : y < n) : img f n 0 y = true := img_iff.2 ⟨y, h, rfl⟩
theorem img_lt {f : Nat → Nat} {n k y : Nat} (h : Into f n) (hi : img f n k y = true) : y < n := by
  obtain ⟨x, hx, rfl⟩ := img_iff.1 hi
  exact it_lt h k hx
theorem img_succ {f : Nat → Nat} {n k y : Nat} (h : Into f n) : img f n (k + 1) y = true ↔ ∃ z, img f n k z = true ∧ f z = y := by
  rw [img_iff]
  constructor
  · rintro ⟨x, hx, rfl⟩
    exact ⟨it f k x, img_iff.2 ⟨x, hx, rfl⟩, rfl⟩
  · rintro ⟨z, hz, rfl⟩
    obtain ⟨x, hx, rfl⟩ := img_iff.1 hz
    exact ⟨x, hx, rfl⟩
theorem img_down {f : Nat → Nat} {n k y : Nat} (h : Into f n) (hi : img f n (k + 1) y = true) : img f n k y = true := by
  obtain ⟨x, hx, rfl⟩ := img_iff.1 hi
  rw [it_in]
  exact img_iff.2 ⟨f x, h x hx, rfl⟩

theorem cnt_mono {n : Nat} {s t : Nat → Bool} (h : ∀ x, x < n → s x = true → t x = true) : cnt3 n s ≤ cnt3 n t := by
  induction n with
  | zero => simp [cnt3]
  | succ n ih =>
    rw [cnt_succ, cnt_succ]
    have h1 := ih fun x hx => h x (by omega)
    by_cases hs : s n = true
    · rw [if_pos hs, if_pos (h n (by omega) hs)]; omega
    · rw [if_neg hs]; omega

theorem cnt_eq {n : Nat} {s t : Nat → Bool} (h : ∀ x, x < n → s x = true → t x = true) (he : cnt3 n s = cnt3 n t) : ∀ x, x < n → s x = t x := by
  induction n with
  | zero => intro x hx; omega
  | succ n ih =>
    rw [cnt_succ, cnt_succ] at he
    have h1 := cnt_mono (n := n) fun x hx => h x (by omega)
    intro x hx
    by_cases hs : s n = true
    · have ht := h n (by omega) hs
      rw [if_pos hs, if_pos ht] at he
      by_cases e : x = n
      · subst e; rw [hs, ht]
      · exact ih (fun x hx => h x (by omega)) (by omega) x (by omega)
    · by_cases ht : t n = true
      · rw [if_neg hs, if_pos ht] at he; omega
      · rw [if_neg hs, if_neg ht] at he
        by_cases e : x = n
        · subst e; simp only [Bool.not_eq_true] at hs ht; rw [hs, ht]
        · exact ih (fun x hx => h x (by omega)) (by omega) x (by omega)

theorem cnt_pos {n : Nat} {s : Nat → Bool} {x : Nat} (hx : x < n) (h : s x = true) : 1 ≤ cnt3 n s := by
  have h1 : x ∈ (List.range n).filter s := List.mem_filter.2 ⟨List.mem_range.2 hx, h⟩
  exact List.length_pos_of_mem h1

/-- When the images stay as many, they are the numbers on cycles, there and from there on. -/
theorem img_stop {f : Nat → Nat} {n k : Nat} (h : Into f n) (he : cnt3 n (img f n (k + 1)) = cnt3 n (img f n k)) : ∀ y, y < n → img f n k y = cyc f n y := by
  have h1 := cnt_eq (fun x _ => img_down h) he
  have h2 : ∀ j y, y < n → img f n (k + j) y = img f n k y := by
    intro j
    induction j with
    | zero => intro y _; rfl
    | succ j ih =>
      intro y hy
      rw [← h1 y hy, Bool.eq_iff_iff, show k + (j + 1) = (k + j) + 1 from rfl, img_succ h, img_succ h]
      constructor
      · rintro ⟨z, hz, e⟩; exact ⟨z, by rw [← ih z (img_lt h hz)]; exact hz, e⟩
      · rintro ⟨z, hz, e⟩; exact ⟨z, by rw [ih z (img_lt h hz)]; exact hz, e⟩
  intro y hy
  rw [← h2 n y hy, Bool.eq_iff_iff, img_iff]
  constructor
  · rintro ⟨x, hx, rfl⟩
    exact cyc_late h hx (by omega)
  · intro hc
    obtain ⟨p, p1, p2, p3⟩ := cyc_per h hc
    refine ⟨it f ((k + n) * p - (k + n)) y, it_lt h _ hy, ?_⟩
    have hle : k + n ≤ (k + n) * p := Nat.le_mul_of_pos_right _ p1
    rw [← it_add, show (k + n) + ((k + n) * p - (k + n)) = (k + n) * p from by omega]
    exact it_mul p3 _

/-- As long as they don't, they get fewer. -/
theorem img_fall {f : Nat → Nat} {n : Nat} (h : Into f n) : ∀ k, (∀ j, j < k → cnt3 n (img f n (j + 1)) ≠ cnt3 n (img f n j)) → cnt3 n (img f n k) + k ≤ n
  | 0, _ => by have := cnt_le n (img f n 0); omega
  | k + 1, hk => by
    have h1 := img_fall h k fun j hj => hk j (by omega)
    have h2 := hk k (by omega)
    have h3 := cnt_mono (n := n) (s := img f n (k + 1)) (t := img f n k) fun x _ => img_down (k := k) h
    omega

theorem img_bound {f : Nat → Nat} {n k : Nat} (h : Into f n) (h0 : 1 ≤ n) (hk : ∀ j, j < k → cnt3 n (img f n (j + 1)) ≠ cnt3 n (img f n j)) : k + 1 ≤ n := by
  have h1 := img_fall h k hk
  have h2 : 1 ≤ cnt3 n (img f n k) := cnt_pos (it_lt h k (show 0 < n by omega)) (img_iff.2 ⟨0, by omega, rfl⟩)
  omega

theorem below_adj (k : Nat) : adj (fun y => decide (y < k)) k true = fun y => decide (y < k + 1) := by
  funext y
  unfold adj
  by_cases e : y = k
  · subst e; simp
  · rw [if_neg e, decide_eq_decide]; omega

theorem numbers_any (g n cap : Nat) (f : Nat → Nat) (w : World) (h : Mg w g n f) :
    Calls Try.prog 118 #[.slice (some ⟨g, 0, none⟩) n cap] w fun e w' => ∃ b, e = .returned (.map (some b)) ∧ w.heap.size ≤ b ∧ St w' n b (img f n 0) ∧ Below w.heap.size w w' := by
  have H := Lib.hid h
  have h0 := h.n0
  have h1 := h.n1
  have hmm := @run_makeMap Try.prog
  clear h
  go_enter Try.func118, Try.ntmps118
  go_wp2
  go_loopw [8] (fun i wr => ∃ k : Nat, k ≤ n ∧ i = .int .i64 k ∧ St wr n w.heap.size (fun y => decide (y < k)) ∧ Below w.heap.size w wr) (fun i _ => n - (intOf i).toNat)
  case atStart => exact ⟨0, Nat.zero_le _, rfl, (St.made w n).congr (fun x _ => by simp), (Below.refl _ _).alloc (Nat.le_refl _) _⟩
  case round =>
    obtain ⟨k, hk, rfl, hs, hb⟩ := hrel
    have HS := Lib.hid hs
    have HB := Lib.hid hb
    clear hs hb
    by_cases hlt : k < n
    · go_wp2_with (at_mapUpdate; refine wpList_putS rfl _ _ _ rfl n w.heap.size _ k rfl rfl rfl HS.out hlt h1 ?_; intro w2 hs2 hg2)
      have HS2 := Lib.hid hs2
      have HB2 := Lib.hid (HB.out.trans ((Below.refl w.heap.size wr).grown hg2 HB.out.size (fun q hq => by cases hq; exact Nat.le_refl _)))
      clear hs2 hg2
      go_wp2
      go_roundw
      case rel => exact ⟨k + 1, by omega, by go_num, below_adj k ▸ HS2.out, HB2.out⟩
      case measure => simp [intOf]; omega
    · obtain rfl : k = n := by omega
      go_wp2
      go_ret
      exact ⟨_, rfl, Nat.le_refl _, HS.out.congr (fun x hx => by rw [img_zero hx]; simpa using hx), HB.out⟩

/-- The sets in a slice of sets are the images of 0, 1, .. steps. -/
def Imgs (w : World) (C n : Nat) (f : Nat → Nat) (v : Value) (bs : List Nat) : Prop :=
  Rg 92 w C v (bs.map fun b => Value.map (some b)) ∧ ∀ (i b : Nat), bs[i]? = some b → C ≤ b ∧ St w n b (img f n i)

/-- A slice's row and a set never lie in one block. -/
theorem row_not_set {w : World} {B n b : Nat} {e : TypeId} {v : Value} {xs : List Value} {s : Nat → Bool} (h : Rg e w B v xs) (hs : St w n b s) : some b ≠ v.ownBlock := by
  intro hc
  obtain ⟨D, ⟨es, clock, hb, _⟩, _⟩ := hs
  rcases h.2 with ⟨rfl, _⟩ | ⟨g, cap, cur, rfl, _, hg, _⟩
  · cases hc
  · simp only [Value.ownBlock, Option.some.injEq] at hc
    subst hc
    rw [hb] at hg
    cases hg

theorem Imgs.keep {w w' : World} {C n : Nat} {f : Nat → Nat} {v : Value} {bs : List Nat} (h : Imgs w C n f v bs) (hb : Below w.heap.size w w') : Imgs w' C n f v bs :=
  ⟨h.1.keep hb, fun i b hi => ⟨(h.2 i b hi).1, (h.2 i b hi).2.keep hb⟩⟩
theorem Imgs.grown {w w' : World} {C n : Nat} {f : Nat → Nat} {v : Value} {bs : List Nat} {r : Nat} (h : Imgs w C n f v bs) (hg : w.grownBy w' (some r)) (h1 : ∀ k, v.ownBlock = some k → k < r) (h2 : ∀ (i b : Nat), bs[i]? = some b → b < r) : Imgs w' C n f v bs := by
  refine ⟨h.1.grown hg ?_, fun i b hi => ⟨(h.2 i b hi).1, (h.2 i b hi).2.kept hg ?_⟩⟩
  · cases hv : v.ownBlock with
    | none => exact .inl rfl
    | some k => exact .inr (fun e => by cases e; exact absurd (h1 _ hv) (Nat.lt_irrefl _))
  · intro e; cases e; exact absurd (h2 _ _ hi) (Nat.lt_irrefl _)

end Go.Proofs.Ytnniiobiedfmoaa

/- from XFD -/
namespace Go.Proofs.Ytnniiobiedfmoaa
open Go.RowKit
set_option linter.unusedVariables false
set_option linter.unusedSimpArgs false
set_option maxRecDepth 100000

/-- What is in the image of a set but for the numbers still to come. -/
def part (f : Nat → Nat) (n : Nat) (s l : Nat → Bool) : Nat → Bool := fun y => (List.range n).any fun x => s x && !l x && f x == y
theorem part_start (f : Nat → Nat) (n : Nat) (s : Nat → Bool) : part f n s s = fun _ => false := by
  funext y
  unfold part
  rw [List.any_eq_false]
  intro x _
  cases s x <;> simp
theorem part_step {f : Nat → Nat} {n : Nat} {s l : Nat → Bool} {x : Nat} (hx : x < n) (hs : s x = true) (hl : l x = true) : adj (part f n s l) (f x) true = part f n s (adj l x false) := by
  funext y
  unfold adj
  rw [Bool.eq_iff_iff]
  by_cases e : y = f x
  · subst e
    rw [if_pos rfl]
    simp only [true_iff]
    unfold part
    rw [List.any_eq_true]
    exact ⟨x, List.mem_range.2 hx, by simp [hs]⟩
  · rw [if_neg e]
    unfold part
    rw [List.any_eq_true, List.any_eq_true]
    constructor
    · rintro ⟨z, hz, h⟩
      refine ⟨z, hz, ?_⟩
      by_cases e2 : z = x
      · subst e2; simp [hl] at h
      · simpa [e2] using h
    · rintro ⟨z, hz, h⟩
      refine ⟨z, hz, ?_⟩
      by_cases e2 : z = x
      · subst e2; simp at h; exact absurd h.2.symm e
      · simpa [e2] using h
theorem part_end {f : Nat → Nat} {n k : Nat} {l : Nat → Bool} (h : Into f n) (hl : ∀ x, x < n → l x = false) : ∀ y, y < n → part f n (img f n k) l y = img f n (k + 1) y := by
  intro y hy
  rw [Bool.eq_iff_iff, img_succ h]
  unfold part
  rw [List.any_eq_true]
  constructor
  · rintro ⟨x, hx, hh⟩
    simp only [Bool.and_eq_true, beq_iff_eq] at hh
    exact ⟨x, hh.1.1, hh.2⟩
  · rintro ⟨x, hx, rfl⟩
    have hxn := img_lt h hx
    exact ⟨x, List.mem_range.2 hxn, by simp [hx, hl x hxn]⟩

theorem fun_upto {P : Nat → Prop} {k : Nat} (h : ∀ j, j < k → P j) (hk : P k) : ∀ j, j < k + 1 → P j := fun j hj => by
  by_cases e : j = k
  · subst e; exact hk
  · exact h j (by omega)

theorem imgs_snoc {w w' : World} {C n k gv cv c : Nat} {f : Nat → Nat} {bs : List Nat} {o : Obj} {v' : Value} (h : Imgs w C n f (.slice (some ⟨gv, 0, none⟩) (k + 1) cv) bs) (hl : bs.length = k + 1) (hs : St w n c (img f n (k + 1))) (hC : C ≤ w.heap.size) (hc : C ≤ c)
    (hr : Rg 92 w' C v' (bs.map (fun b => Value.map (some b)) ++ [.map (some c)])) (hg : (w.alloc o).grownBy w' (Value.slice (some ⟨gv, 0, none⟩) (k + 1) cv).ownBlock) :
    Imgs w' C n f v' (bs ++ [c]) ∧ ∃ g2 c2, v' = .slice (some ⟨g2, 0, none⟩) (k + 1 + 1) c2 := by
  refine ⟨⟨by rw [List.map_append]; exact hr, fun i b hi => ?_⟩, ?_⟩
  · by_cases hik : i < k + 1
    · rw [List.getElem?_append_left (by omega)] at hi
      obtain ⟨h1, h2⟩ := h.2 i b hi
      exact ⟨h1, (h2.alloc o).kept hg (row_not_set (h.1.alloc o) (h2.alloc o))⟩
    · rw [List.getElem?_append_right (by omega)] at hi
      by_cases hi0 : i = k + 1
      · subst hi0
        rw [hl, Nat.sub_self] at hi
        simp only [List.getElem?_cons_zero, Option.some.injEq] at hi
        subst hi
        exact ⟨hc, (hs.alloc o).kept hg (row_not_set (h.1.alloc o) (hs.alloc o))⟩
      · rw [List.getElem?_eq_none (by simp; omega)] at hi
        cases hi
  · rcases hr.cases with ⟨_, h2⟩ | ⟨g2, c2, h2⟩
    · exact absurd (congrArg List.length h2) (by simp)
    · refine ⟨g2, c2, ?_⟩
      rw [h2]
      simp [hl]

theorem images_any (g n cap : Nat) (f : Nat → Nat) (w : World) (h : Mg w g n f) :
    Calls Try.prog 104 #[.slice (some ⟨g, 0, none⟩) n cap] w fun e w' => ∃ (v : Value) (bs : List Nat) (k : Nat), e = .returned v ∧ Imgs w' w.heap.size n f v bs ∧ bs.length = k + 1 ∧ k + 1 ≤ n ∧ (∀ j, j < k → cnt3 n (img f n (j + 1)) ≠ cnt3 n (img f n j)) ∧ cnt3 n (img f n (k + 1)) = cnt3 n (img f n k) ∧ Below w.heap.size w w' := by
  have H := Lib.hid h
  have h0 := h.n0
  have h1 := h.n1
  have hmm := @run_makeMap Try.prog
  clear h
  go_enter Try.func104, Try.ntmps104
  go_wp2_with fail
  refine (numbers_any g n cap f _ H.out).mono ?_
  rintro e w1 ⟨b0, rfl, hb0, hs, hb⟩
  have HB1 := Lib.hid hb
  have HI1 := Lib.hid (show Imgs (w1.alloc (.cells #[.map (some b0)] 92)) w.heap.size n f (.slice (some ⟨w1.heap.size, 0, none⟩) 1 1) [b0] from
    ⟨Rg.lit _ _ _ _ hb.size, fun i b hi => by
      cases i with
      | zero => simp only [List.getElem?_cons_zero, Option.some.injEq] at hi; subst hi; exact ⟨hb0, hs.alloc _⟩
      | succ i => simp at hi⟩)
  clear hb0 hs hb
  go_wp2
  go_loopw [3] (fun v wr => ∃ (bs : List Nat) (k : Nat) (gv cv : Nat), v = .slice (some ⟨gv, 0, none⟩) (k + 1) cv ∧ Imgs wr w.heap.size n f v bs ∧ bs.length = k + 1 ∧ (∀ j, j < k → cnt3 n (img f n (j + 1)) ≠ cnt3 n (img f n j)) ∧ Below w.heap.size w wr) (fun v _ => n - lenOf v)
  case atStart => exact ⟨[b0], 0, _, _, rfl, HI1.out, rfl, fun j hj => by omega, HB1.out.alloc HB1.out.size _⟩
  case round =>
    rename World => wa
    obtain ⟨bs, k, gv, cv, rfl, hi, hl, hk, hb⟩ := hrel
    have HI := Lib.hid hi
    have HL := Lib.hid hl
    have HK := Lib.hid hk
    have HB := Lib.hid hb
    have hkn := img_bound H.out.into h0 hk
    have hwa := hb.size
    obtain ⟨b, hbk⟩ : ∃ b, bs[k]? = some b := ⟨bs[k]'(by omega), by simp⟩
    have HBK := Lib.hid hbk
    have hcell : wa.cell? ⟨gv, k, none⟩ = some (.map (some b)) := by
      obtain ⟨_, _, _, _, _, hc, _⟩ := hi.1.at
      rw [hc k (by simp; omega)]
      obtain ⟨hk2, hk3⟩ := List.getElem?_eq_some_iff.1 hbk
      simp [hk3]
    have HS := Lib.hid (hi.2 k b hbk).2
    have hCb := (hi.2 k b hbk).1
    have hblt := (hi.2 k b hbk).2.lt
    clear hi hl hk hb hbk
    have er : (wa.alloc (.map #[] 0)).heap.size = wa.heap.size + 1 := by simp
    go_wp2_with (at_range; refine wpList_rangeS rfl _ rfl n b _ rfl (HS.out.alloc _) ?_; intro w2 hr2 hg2 hz2)
    rw [er] at hr2
    have HR2 := Lib.hid hr2
    have HS2 := Lib.hid ((St.made wa n).kept hg2 (by simp))
    have HB2 := Lib.hid (((Below.refl wa.heap.size wa).alloc (Nat.le_refl _) (.map #[] 0)).grown hg2 (by simp) (fun q hq => by cases hq))
    have hz2' : wa.heap.size + 2 ≤ w2.heap.size := by rw [hz2, er]; exact Nat.le_refl _
    have HZ2 := Lib.hid hz2'
    clear hr2 hg2 hz2 hz2'
    go_frame
    simp only [er]
    go_loopw [6] (fun _ wq => ∃ l, Ran wq n b (wa.heap.size + 1) (img f n k) l ∧ St wq n wa.heap.size (part f n (img f n k) l) ∧ Below wa.heap.size wa wq ∧ wa.heap.size + 2 ≤ wq.heap.size) (fun _ wq => wq.rangeLeft b (wa.heap.size + 1))
    case atStart => exact ⟨_, HR2.out, by rw [part_start]; exact HS2.out, HB2.out, HZ2.out⟩
    case round =>
      obtain ⟨l, hr, hs, hb, hz⟩ := hrel
      have HRq := Lib.hid hr
      have HSq := Lib.hid hs
      have HBq := Lib.hid hb
      have HZq := Lib.hid hz
      clear hr hs hb hz
      go_wp2_with (at_next; go_loud (refine wpList_nextS rfl _ rfl n b (wa.heap.size + 1) _ l rfl HRq.out ?_ ?_))
      · intro hl0
        have HE := Lib.hid (part_end (k := k) H.out.into hl0)
        have HC := Lib.hid (cnt_congr HE.out)
        have HBn := Lib.hid (Below.step HB.out HB.out.size HBq.out)
        have HIq := Lib.hid (HI.out.keep HBq.out)
        by_cases he : cnt3 n (img f n (k + 1)) = cnt3 n (img f n k)
        · have hbq : (((cnt3 n (part f n (img f n k) l) : Nat) : Int) == ((cnt3 n (img f n k) : Nat) : Int)) = true := beq_yes (by rw [HC.out, he])
          go_wp2_with (first | (at_len; refine wpList_lenS rfl _ rfl n wa.heap.size _ rfl HSq.out ?_) | (at_len; refine wpList_lenS rfl _ rfl n b _ rfl HRq.out.st ?_))
          go_ret
          exact ⟨_, bs, k, rfl, HIq.out, HL.out, hkn, HK.out, he, HBn.out⟩
        · have hbq : (((cnt3 n (part f n (img f n k) l) : Nat) : Int) == ((cnt3 n (img f n k) : Nat) : Int)) = false := beq_no (by rw [HC.out]; omega)
          have HN := Lib.hid he
          clear he
          go_wp2_with (first | (at_len; refine wpList_lenS rfl _ rfl n wa.heap.size _ rfl HSq.out ?_) | (at_len; refine wpList_lenS rfl _ rfl n b _ rfl HRq.out.st ?_) | (at_builtin; refine wpList_appG rfl _ _ _ 92 (.map none) 8 Try.underlying104 infoM (by omega) rfl rfl w.heap.size w.heap.size _ _ _ [.map (some wa.heap.size)] rfl rfl (HIq.out.1.alloc _) (Rg.lit _ _ _ _ HBn.out.size) (by simp [Value.oneCell']) (by have := HL.out; simp; omega) (by have := HBn.out.size; simp; omega) ?_; intro v1 w3 hr3 hg3 hb3))
          have HG := Lib.hid (imgs_snoc HIq.out HL.out (HSq.out.congr HE.out) HBn.out.size hwa hr3 hg3)
          have HB3 := Lib.hid ((HBn.out.alloc HBn.out.size _).trans hb3)
          obtain ⟨gv', cv', hv'⟩ := HG.out.2
          have HG2 := Lib.hid HG.out.1
          clear hr3 hg3 hb3 HG
          subst hv'
          go_wp2
          go_roundw
          case rel => exact ⟨bs ++ [wa.heap.size], k + 1, gv', cv', rfl, HG2.out, by simp [HL.out], fun_upto HK.out HN.out, HB3.out⟩
          case measure =>
            have hk2 := img_bound H.out.into h0 (fun_upto HK.out HN.out)
            simp [lenOf]; omega
      · intro x w3 hx hlx hsx hr3 hlt3 hg3 hz3 hen
        have HR3 := Lib.hid hr3
        have HB3 := Lib.hid (HBq.out.grown hg3 HBq.out.size (fun q hq => by cases hq; omega))
        have HS3 := Lib.hid (HSq.out.kept hg3 (by simp))
        have hcell := (H.out.keep (Below.step HB.out HB.out.size HB3.out)).cell x hx
        have hfx := H.out.into x hx
        have HL3 := Lib.hid hlt3
        have HZ3 := Lib.hid hz3
        clear hr3 hg3 hz3 hlt3
        go_wp2_with (at_mapUpdate; refine wpList_putS rfl _ _ _ rfl n wa.heap.size _ (f x) rfl rfl rfl HS3.out hfx h1 ?_; intro w4 hs4 hg4)
        have HR4 := Lib.hid (HR3.out.kept hg4 (by simp; omega) (by simp))
        have HB4 := Lib.hid (HB3.out.grown hg4 HB3.out.size (fun q hq => by cases hq; exact Nat.le_refl _))
        have HS4 := Lib.hid (part_step hx hsx hlx ▸ hs4)
        have HZ4 := Lib.hid (Nat.le_trans HZq.out (Nat.le_trans (Nat.le_of_eq HZ3.out.symm) hg4.size))
        clear hs4 hg4
        go_frame
        go_roundw
        case rel => exact ⟨_, HR4.out.1, HS4.out, HB4.out, HZ4.out⟩
        case measure => rw [HR4.out.2]; exact HL3.out

/-- The set of the numbers on cycles. -/
theorem onCycles_any (g n cap : Nat) (f : Nat → Nat) (w : World) (h : Mg w g n f) :
    Calls Try.prog 87 #[.slice (some ⟨g, 0, none⟩) n cap] w fun e w' => ∃ b, e = .returned (.map (some b)) ∧ w.heap.size ≤ b ∧ St w' n b (cyc f n) ∧ Below w.heap.size w w' := by
  have H := Lib.hid h
  have h0 := h.n0
  have h1 := h.n1
  clear h
  go_enter Try.func87, Try.ntmps87
  go_wp2_with fail
  refine (images_any g n cap f _ H.out).mono ?_
  rintro e w1 ⟨v, bs, k, rfl, hi, hl, hkn, hk, he, hb⟩
  obtain ⟨b, hbk⟩ : ∃ b, bs[k]? = some b := ⟨bs[k]'(by omega), by simp⟩
  obtain ⟨hC, hS⟩ := hi.2 k b hbk
  have HS := Lib.hid (hS.congr (img_stop H.out.into he))
  rcases hi.1.cases with ⟨_, h2⟩ | ⟨gv, cv, rfl⟩
  · exact absurd (congrArg List.length h2) (by rw [List.length_map, hl]; simp)
  have hcell : w1.cell? ⟨gv, k, none⟩ = some (.map (some b)) := by
    obtain ⟨_, _, _, _, _, hc, _⟩ := hi.1.at
    rw [hc k (by simp; omega)]
    obtain ⟨hk2, hk3⟩ := List.getElem?_eq_some_iff.1 hbk
    simp [hk3]
  have hlen : (bs.map fun b => Value.map (some b)).length = k + 1 := by simp [hl]
  rw [hlen]
  have HB := Lib.hid hb
  have HL := Lib.hid hl
  clear hi hl hk he hb hbk hS hlen
  go_wp2
  go_ret
  exact ⟨b, rfl, hC, HS.out, HB.out⟩

end Go.Proofs.Ytnniiobiedfmoaa

/- from XFE -/
namespace Go.Proofs.Ytnniiobiedfmoaa
open Go.RowKit
set_option linter.unusedVariables false
set_option linter.unusedSimpArgs false
set_option maxRecDepth 100000

def nts (l : List Nat) : List Int := l.map fun (x : Nat) => (x : Int)
theorem nts_len (l : List Nat) : (nts l).length = l.length := by simp [nts]
theorem nts_snoc (l : List Nat) (x : Nat) : nts (l ++ [x]) = nts l ++ [(x : Int)] := by simp [nts]

theorem rd_not_set {w : World} {B n b : Nat} {v : Value} {xs : List Int} {s : Nat → Bool} (h : Rd w B v xs) (hs : St w n b s) : some b ≠ v.ownBlock := by
  refine row_not_set (e := 3) (B := B) (xs := xs.map (Value.int .i64)) ?_ hs
  unfold Rg
  rw [List.length_map]
  exact h


/-- A slice of slices: the outer one holds the values vs, which hold the lists ls, each in a block of its own. -/
structure LLv (w : World) (B : Nat) (v : Value) (vs : List Value) (ls : List (List Nat)) : Prop where
  row : Rg 26 w B v vs
  len : vs.length = ls.length
  at' : ∀ (i : Nat) (u : Value) (l : List Nat), vs[i]? = some u → ls[i]? = some l → Rd w B u (nts l)
  apart : ∀ (i j : Nat) (u z : Value), i < j → vs[i]? = some u → vs[j]? = some z → u.ownBlock = none ∨ u.ownBlock ≠ z.ownBlock

theorem LLv.rd {w : World} {B i : Nat} {v u : Value} {vs : List Value} {ls : List (List Nat)} (h : LLv w B v vs ls) (hi : vs[i]? = some u) : ∃ l, ls[i]? = some l ∧ Rd w B u (nts l) := by
  obtain ⟨h1, _⟩ := List.getElem?_eq_some_iff.1 hi
  have h2 : i < ls.length := by rw [← h.len]; exact h1
  exact ⟨ls[i], by simp [h2], h.at' i u _ hi (by simp [h2])⟩

theorem rd_rg {w : World} {B : Nat} {v : Value} {xs : List Int} (h : Rd w B v xs) : Rg 3 w B v (xs.map (Value.int .i64)) := by
  unfold Rg
  rw [List.length_map]
  exact h

theorem rows_apart {e e' : TypeId} (he : e ≠ e') {w : World} {B C : Nat} {v u : Value} {xs ys : List Value} (h : Rg e w B v xs) (h2 : Rg e' w C u ys) : v.ownBlock = none ∨ v.ownBlock ≠ u.ownBlock := by
  rcases h.2 with ⟨rfl, _⟩ | ⟨g, cap, cur, rfl, _, hg, _⟩
  · exact .inl rfl
  · right
    rcases h2.2 with ⟨rfl, _⟩ | ⟨g2, cap2, cur2, rfl, _, hg2, _⟩
    · intro e; cases e
    · intro e
      simp only [Value.ownBlock, Option.some.injEq] at e
      subst e
      rw [hg] at hg2
      simp only [Option.some.injEq, Obj.cells.injEq] at hg2
      exact he hg2.2.1

theorem rd_not_row {w : World} {B C : Nat} {v u : Value} {xs : List Int} {vs : List Value} (h : Rd w B v xs) (h2 : Rg 26 w C u vs) : v.ownBlock = none ∨ v.ownBlock ≠ u.ownBlock := rows_apart (by decide) (rd_rg h) h2
theorem row_not_rd {w : World} {B C : Nat} {v u : Value} {xs : List Int} {vs : List Value} (h : Rd w B v xs) (h2 : Rg 26 w C u vs) : u.ownBlock = none ∨ u.ownBlock ≠ v.ownBlock := rows_apart (by decide) h2 (rd_rg h)

theorem LLv.nil (w : World) (B : Nat) : LLv w B (.slice none 0 0) [] [] := ⟨Rg.nil _ _ _, rfl, fun i u l h => by simp at h, fun i j u z _ h => by simp at h⟩

theorem LLv.grown {w w' : World} {B : Nat} {v : Value} {vs : List Value} {ls : List (List Nat)} {row : Option Nat} (h : LLv w B v vs ls) (hg : w.grownBy w' row) (h1 : v.ownBlock = none ∨ v.ownBlock ≠ row) (h2 : ∀ (i : Nat) (u : Value), vs[i]? = some u → u.ownBlock = none ∨ u.ownBlock ≠ row) : LLv w' B v vs ls :=
  ⟨h.row.grown hg h1, h.len, fun i u l hu hl => (h.at' i u l hu hl).grown hg (h2 i u hu), h.apart⟩
theorem LLv.keep {w w' : World} {B : Nat} {v : Value} {vs : List Value} {ls : List (List Nat)} (h : LLv w B v vs ls) (hb : Below w.heap.size w w') : LLv w' B v vs ls :=
  ⟨h.row.keep hb, h.len, fun i u l hu hl => (h.at' i u l hu hl).keep hb, h.apart⟩
theorem LLv.mono {w : World} {B C : Nat} {v : Value} {vs : List Value} {ls : List (List Nat)} (h : LLv w B v vs ls) (hC : C ≤ B) : LLv w C v vs ls :=
  ⟨h.row.mono hC, h.len, fun i u l hu hl => (h.at' i u l hu hl).mono hC, h.apart⟩
theorem LLv.alloc {w : World} {B : Nat} {v : Value} {vs : List Value} {ls : List (List Nat)} (h : LLv w B v vs ls) (o : Obj) : LLv (w.alloc o) B v vs ls :=
  ⟨h.row.alloc o, h.len, fun i u l hu hl => (h.at' i u l hu hl).alloc o, h.apart⟩

theorem LLv.snoc {w w' : World} {B : Nat} {v v' u : Value} {vs : List Value} {ls : List (List Nat)} {l : List Nat} {o : Obj} (h : LLv w B v vs ls) (hu : Rd w B u (nts l)) (ha : ∀ (i : Nat) (z : Value), vs[i]? = some z → z.ownBlock = none ∨ z.ownBlock ≠ u.ownBlock)
    (hr : Rg 26 w' B v' (vs ++ [u])) (hg : (w.alloc o).grownBy w' v.ownBlock) : LLv w' B v' (vs ++ [u]) (ls ++ [l]) := by
  have h1 := h.alloc o
  have hu1 := hu.alloc o
  refine ⟨hr, by simp [h.len], fun i z m hz hm => ?_, fun i j z y hij hz hy => ?_⟩
  · by_cases hi : i < vs.length
    · rw [List.getElem?_append_left hi] at hz
      rw [List.getElem?_append_left (by rw [← h.len]; exact hi)] at hm
      have := h1.at' i z m hz hm
      exact this.grown hg (rd_not_row this h1.row)
    · rw [List.getElem?_append_right (by omega)] at hz
      rw [List.getElem?_append_right (by rw [← h.len]; omega)] at hm
      by_cases hi0 : i - vs.length = 0
      · rw [hi0] at hz
        rw [← h.len, hi0] at hm
        simp only [List.getElem?_cons_zero, Option.some.injEq] at hz hm
        subst hz; subst hm
        exact hu1.grown hg (rd_not_row hu1 h1.row)
      · rw [List.getElem?_eq_none (by simp; omega)] at hz
        cases hz
  · have hj : j < (vs ++ [u]).length := (List.getElem?_eq_some_iff.1 hy).1
    rw [List.length_append, List.length_singleton] at hj
    rw [List.getElem?_append_left (by omega)] at hz
    by_cases hj2 : j < vs.length
    · rw [List.getElem?_append_left hj2] at hy
      exact h.apart i j z y hij hz hy
    · obtain rfl : j = vs.length := by omega
      rw [List.getElem?_append_right (Nat.le_refl _), Nat.sub_self] at hy
      simp only [List.getElem?_cons_zero, Option.some.injEq] at hy
      subst hy
      exact ha i z hz

theorem cycsTo_len (f : Nat → Nat) (n k : Nat) : (cycsTo f n k).length ≤ k := by
  unfold cycsTo
  rw [List.length_map]
  have := List.length_filter_le (lead f n) (List.range k)
  rw [List.length_range] at this
  exact this

/-- The numbers on cycles that are left before x is looked at. -/
def leftB (f : Nat → Nat) (n x y : Nat) : Bool := cyc f n y && !seenB f n x y
/-- .. with the first j numbers of the cycle of x taken away. -/
def leftJ (f : Nat → Nat) (n x j y : Nat) : Bool := leftB f n x y && !(List.range j).any fun i => it f i x == y

theorem leftJ_zero (f : Nat → Nat) (n x : Nat) : leftJ f n x 0 = leftB f n x := by funext y; simp [leftJ]
theorem leftJ_step (f : Nat → Nat) (n x j : Nat) : adj (leftJ f n x j) (it f j x) false = leftJ f n x (j + 1) := by
  funext y
  unfold adj leftJ
  rw [List.range_succ, List.any_append]
  by_cases e : y = it f j x
  · subst e; simp
  · have e' : (it f j x == y) = false := beq_eq_false_iff_ne.2 (fun h => e h.symm)
    simp [e, e']

theorem leftJ_yes {f : Nat → Nat} {n x j : Nat} (h : Into f n) (hl : lead f n x = true) (hj : j < per f n x) : leftJ f n x j (it f j x) = true := by
  obtain ⟨hc, hmin⟩ := (lead_iff h).1 hl
  have hcj := cyc_it h hc j
  unfold leftJ leftB
  rw [hcj]
  have h1 : seenB f n x (it f j x) = false := by
    rw [Bool.eq_false_iff]
    intro hs
    unfold seenB at hs
    simp only [Bool.and_eq_true, List.any_eq_true, decide_eq_true_eq] at hs
    obtain ⟨_, z, hz, hlt⟩ := hs
    have := hmin z (rnd_trans h hc (mem_rnd.2 ⟨j, hj, rfl⟩) hz)
    omega
  rw [h1]
  simp only [Bool.not_false, Bool.and_true, Bool.true_and, Bool.not_eq_true', List.any_eq_false, beq_iff_eq]
  intro i hi
  rw [List.mem_range] at hi
  exact per_inj h hc hi hj

theorem leftJ_no {f : Nat → Nat} {n x : Nat} (h : Into f n) (hc : cyc f n x = true) : leftJ f n x (per f n x) (it f (per f n x) x) = false := by
  obtain ⟨p1, p2, p3, p4⟩ := per_spec h hc
  rw [p3]
  unfold leftJ
  rw [Bool.and_eq_false_iff]
  right
  simp only [Bool.not_eq_false', List.any_eq_true, beq_iff_eq]
  exact ⟨0, List.mem_range.2 p1, rfl⟩

theorem leftJ_end {f : Nat → Nat} {n x : Nat} (h : Into f n) (hx : x < n) (hc : cyc f n x = true) (y : Nat) : leftJ f n x (per f n x) y = leftB f n (x + 1) y := by
  unfold leftJ leftB
  have h1 : ((List.range (per f n x)).any fun i => it f i x == y) = decide (y ∈ rnd f n x) := by
    rw [Bool.eq_iff_iff, decide_eq_true_iff, mem_rnd, List.any_eq_true]
    simp
  have h2 : seenB f n (x + 1) y = (seenB f n x y || decide (y ∈ rnd f n x)) := by
    rw [Bool.eq_iff_iff, seenB_succ h hx]
    simp [hc]
  rw [h1, h2]
  cases cyc f n y <;> cases seenB f n x y <;> cases decide (y ∈ rnd f n x) <;> rfl

theorem leftB_skip {f : Nat → Nat} {n x : Nat} (h : Into f n) (hx : x < n) (hl : lead f n x = false) (y : Nat) : leftB f n x y = leftB f n (x + 1) y := by
  unfold leftB
  rw [seenB_skip h hx hl]

theorem rnd_take (f : Nat → Nat) (x j : Nat) : nts ((List.range (j + 1)).map fun i => it f i x) = nts ((List.range j).map fun i => it f i x) ++ [((it f j x : Nat) : Int)] := by
  rw [List.range_succ, List.map_append]; simp [nts]

end Go.Proofs.Ytnniiobiedfmoaa

/- from XFF -/
namespace Go.Proofs.Ytnniiobiedfmoaa
open Go.RowKit
set_option linter.unusedVariables false
set_option linter.unusedSimpArgs false
set_option maxRecDepth 100000

theorem LLv.app {w w' : World} {B D : Nat} {v u : Value} {vs : List Value} {ls : List (List Nat)} {xs : List Int} {o : Obj} (h : LLv w B v vs ls) (hu : Rd (w.alloc o) D u xs) (hD : ∀ (i : Nat) (z : Value), vs[i]? = some z → ∀ q, z.ownBlock = some q → q < D) (hg : (w.alloc o).grownBy w' u.ownBlock) : LLv w' B v vs ls := by
  refine (h.alloc o).grown hg (row_not_rd hu (h.alloc o).row) fun i z hz => ?_
  cases hq : z.ownBlock with
  | none => exact .inl rfl
  | some q =>
    right
    intro e
    have h1 := hD i z hz q hq
    have h2 := (hu.lt q e.symm).1
    omega

theorem LLv.put {w w' : World} {B n b : Nat} {v : Value} {vs : List Value} {ls : List (List Nat)} {s : Nat → Bool} (h : LLv w B v vs ls) (hs : St w n b s) (hg : w.grownBy w' (some b)) : LLv w' B v vs ls := by
  refine h.grown hg ?_ fun i z hz => ?_
  · exact .inr (fun e => row_not_set h.row hs e.symm)
  · obtain ⟨l, _, hr⟩ := h.rd hz
    exact .inr (fun e => rd_not_set hr hs e.symm)

theorem LLv.far {w : World} {D : Nat} {u : Value} {vs : List Value} {xs : List Int} {i : Nat} {z : Value} (hD : ∀ (i : Nat) (z : Value), vs[i]? = some z → ∀ q, z.ownBlock = some q → q < D) (hu : Rd w D u xs) (hi : vs[i]? = some z) : z.ownBlock = none ∨ z.ownBlock ≠ u.ownBlock := by
  cases hq : z.ownBlock with
  | none => exact .inl rfl
  | some q =>
    right
    intro e
    have h1 := hD i z hi q hq
    have h2 := (hu.lt q e.symm).1
    omega

theorem cycles_any (g n cap : Nat) (f : Nat → Nat) (w : World) (h : Mg w g n f) :
    Calls Try.prog 67 #[.slice (some ⟨g, 0, none⟩) n cap] w fun e w' => ∃ v vs, e = .returned v ∧ LLv w' w.heap.size v vs (cycs f n) ∧ Below w.heap.size w w' := by
  have H := Lib.hid h
  have h0 := h.n0
  have h1 := h.n1
  clear h
  go_enter Try.func67, Try.ntmps67
  go_wp2_with fail
  refine (onCycles_any g n cap f _ H.out).mono ?_
  rintro e w1 ⟨b, rfl, hCb, hs, hb⟩
  have HS1 := Lib.hid hs
  have HB1 := Lib.hid hb
  clear hs hb
  go_wp2
  go_loopw [3, 12] (fun v i wr => ∃ (k : Nat) (vs : List Value), k ≤ n ∧ i = .int .i64 k ∧ LLv wr w.heap.size v vs (cycsTo f n k) ∧ St wr n b (leftB f n k) ∧ Below w.heap.size w wr) (fun _ i _ => n - (intOf i).toNat)
  case atStart => exact ⟨0, [], Nat.zero_le _, rfl, LLv.nil _ _, HS1.out.congr (fun x _ => by simp [leftB, seenB_zero]), HB1.out⟩
  case round =>
    rename World => wa
    obtain ⟨k, vs, hk, rfl, hv, hs, hb⟩ := hrel
    have HV := Lib.hid hv
    have HS := Lib.hid hs
    have HB := Lib.hid hb
    clear hv hs hb
    by_cases hlt : k < n
    · have hlead := lead_seen (x := k) H.out.into
      cases hl : lead f n k
      · have hq : leftB f n k k = false := by rw [← hl, hlead]; rfl
        have HE := Lib.hid (fun y => leftB_skip H.out.into hlt hl y)
        have HC := Lib.hid (show cycsTo f n (k + 1) = cycsTo f n k by rw [cycsTo_succ, if_neg (by rw [hl]; simp)])
        clear hl hlead
        go_wp2_with (at_lookup; refine wpList_lookS rfl _ _ rfl n b _ k rfl rfl HS.out hlt h1 ?_; rw [hq])
        go_roundw
        case rel => exact ⟨k + 1, vs, by omega, by go_num, by rw [HC.out]; exact HV.out, HS.out.congr (fun x _ => HE.out x), HB.out⟩
        case measure => simp [intOf]; omega
      · have hq : leftB f n k k = true := by rw [← hl, hlead]; rfl
        have hck := ((lead_iff H.out.into).1 hl).1
        have HLD := Lib.hid hl
        have HCK := Lib.hid hck
        have HP := Lib.hid (per_spec H.out.into hck)
        obtain ⟨p, hp⟩ : ∃ p, p = per f n k := ⟨_, rfl⟩
        rw [← hp] at HP
        have HPE := Lib.hid hp
        have hp1 := HP.out.1
        have hp2 := HP.out.2.1
        have HC := Lib.hid (show cycsTo f n (k + 1) = cycsTo f n k ++ [rnd f n k] by rw [cycsTo_succ, if_pos hl])
        have HR0 := Lib.hid (show rnd f n k = (List.range p).map fun i => it f i k by unfold rnd; rw [hp])
        have HVL := Lib.hid (fun (i : Nat) (u : Value) (hi : vs[i]? = some u) => let ⟨l, _, hr⟩ := HV.out.rd hi; fun q hq => (hr.lt q hq).2)
        have HBb := Lib.hid hCb
        clear hl hlead hck hp
        go_wp2_with (at_lookup; refine wpList_lookS rfl _ _ rfl n b _ k rfl rfl HS.out hlt h1 ?_; rw [hq])
        go_loopw [6, 7] (fun u y wr => ∃ (j : Nat), j ≤ p ∧ y = .int .i64 ((it f j k : Nat) : Int) ∧ Rd wr wa.heap.size u (nts ((List.range j).map fun i => it f i k)) ∧ St wr n b (leftJ f n k j) ∧ LLv wr w.heap.size u3 vs (cycsTo f n k) ∧ Below w.heap.size w wr ∧ wa.heap.size ≤ wr.heap.size ∧ lenOf u = j) (fun u _ _ => p - lenOf u)
        case atStart => exact ⟨0, Nat.zero_le _, rfl, Rd.nil _ _, by rw [leftJ_zero]; exact HS.out, HV.out, HB.out, Nat.le_refl _, rfl⟩
        case round =>
          obtain ⟨j, hj, rfl, hr, hs, hv, hb, hz, hlen⟩ := hrel
          have HRj := Lib.hid hr
          have HSj := Lib.hid hs
          have HVj := Lib.hid hv
          have HBj := Lib.hid hb
          have HZ := Lib.hid hz
          have HLN := Lib.hid hlen
          have HWA := Lib.hid HB.out.size
          clear hr hs hv hb hz hlen
          have hy := it_lt H.out.into j hlt
          obtain ⟨y, hyy⟩ : ∃ y, y = it f j k := ⟨_, rfl⟩
          have HY := Lib.hid hyy
          rw [← hyy] at hy ⊢
          clear hyy
          by_cases hjp : j < p
          · have hq2 : leftJ f n k j y = true := by rw [HY.out]; exact leftJ_yes H.out.into HLD.out (by rw [← HPE.out]; exact hjp)
            go_wp2_with (first | (at_lookup; refine wpList_lookS rfl _ _ rfl n b _ y rfl rfl HSj.out hy h1 ?_; rw [hq2]) | (at_builtin; refine wpList_appR rfl _ _ rfl wa.heap.size wa.heap.size _ _ (nts ((List.range j).map fun i => it f i k)) [(y : Int)] rfl rfl (HRj.out.alloc _) (Rd.litB _ _ _ HZ.out) (by rw [nts_len]; simp; omega) (by have := HZ.out; simp; omega) ?_; intro v1 w3 hr3 hg3 hb3; have HR3 := Lib.hid hr3); have HS3 := Lib.hid ((HSj.out.alloc (.cells #[.int .i64 (y : Int)] 3)).kept hg3 (rd_not_set (HRj.out.alloc (.cells #[.int .i64 (y : Int)] 3)) (HSj.out.alloc (.cells #[.int .i64 (y : Int)] 3)))); have HV3 := Lib.hid (LLv.app HVj.out (HRj.out.alloc (.cells #[.int .i64 (y : Int)] 3)) HVL.out hg3); have HB3 := Lib.hid ((HBj.out.alloc HBj.out.size _).trans (hb3.mono HWA.out)); have HZ3 := Lib.hid (Nat.le_trans HZ.out (Nat.le_trans (Nat.le_of_lt (by simp)) hg3.size)); clear hr3 hg3 hb3 | (at_delete; refine wpList_delS rfl _ _ rfl n b _ y rfl rfl HS3.out hy h1 ?_; intro w4 hs4 hg4; have hcell := (H.out.keep (HB3.out.grown hg4 HB3.out.size (fun q hq => by cases hq; exact HBb.out))).cell y hy))
            have HR4 := Lib.hid (HR3.out.grown hg4 (.inr (fun e => rd_not_set HR3.out HS3.out e.symm)))
            have HS4 := Lib.hid (leftJ_step f n k j ▸ HY.out ▸ hs4)
            have HV4 := Lib.hid (HV3.out.put HS3.out hg4)
            have HB4 := Lib.hid (HB3.out.grown hg4 HB3.out.size (fun q hq => by cases hq; exact HBb.out))
            have HZ4 := Lib.hid (Nat.le_trans HZ3.out hg4.size)
            have HL4 := Lib.hid (lenOf_rd HR3.out)
            have HTK := Lib.hid (rnd_take f k j)
            clear hs4 hg4
            go_wp2
            go_roundw
            case rel => exact ⟨j + 1, by omega, by rw [HY.out]; rfl, by rw [HTK.out, ← HY.out]; exact HR4.out, HS4.out, HV4.out, HB4.out, HZ4.out, by rw [HL4.out]; simp [nts]⟩
            case measure => rw [HL4.out, HLN.out]; simp [nts]; omega
          · obtain rfl : j = p := by omega
            have hq2 : leftJ f n k j y = false := by rw [HY.out, HPE.out]; exact leftJ_no H.out.into HCK.out
            have HJE := Lib.hid (show ∀ z, leftJ f n k j z = leftB f n (k + 1) z from fun z => by rw [HPE.out]; exact leftJ_end H.out.into hlt HCK.out z)
            have hnl : (nts ((List.range j).map fun i => it f i k)).length = j := by simp [nts]
            obtain ⟨gu, cu, hu⟩ : ∃ gu cu, u6 = .slice (some ⟨gu, 0, none⟩) j cu := by
              rcases HRj.out.cases with ⟨_, hx⟩ | ⟨gu, cu, hu, _⟩
              · rw [hx] at hnl; simp at hnl; omega
              · rw [hnl] at hu; exact ⟨gu, cu, hu⟩
            subst hu
            clear hnl
            have HVL2 := Lib.hid (show vs.length ≤ 40000 by have h2 := cycsTo_len f n k; rw [← HVj.out.len] at h2; omega)
            go_wp2_with (first | (at_lookup; refine wpList_lookS rfl _ _ rfl n b _ y rfl rfl HSj.out hy h1 ?_; rw [hq2]) | (at_builtin; refine wpList_appG rfl _ _ _ 26 (.slice none 0 0) 24 Try.underlying38 infoL (by omega) rfl rfl w.heap.size w.heap.size u3 _ vs [.slice (some ⟨gu, 0, none⟩) j cu] rfl rfl (HVj.out.row.alloc _) (Rg.lit _ _ _ _ HBj.out.size) (by simp [Value.oneCell']) (by have := HVL2.out; simp; omega) (by have := HBj.out.size; simp; omega) ?_; intro v1 w3 hr3 hg3 hb3))
            have HV3 := Lib.hid (HVj.out.snoc (o := .cells #[.slice (some ⟨gu, 0, none⟩) j cu] 26) (HRj.out.mono HWA.out) (fun i z hi => LLv.far HVL.out HRj.out hi) hr3 hg3)
            have HS3 := Lib.hid (((HSj.out.congr (t := leftB f n (k + 1)) (fun z _ => HJE.out z)).alloc (.cells #[.slice (some ⟨gu, 0, none⟩) j cu] 26)).kept hg3 (row_not_set HVj.out.row HSj.out))
            have HB3 := Lib.hid ((HBj.out.alloc HBj.out.size _).trans hb3)
            clear hr3 hg3 hb3
            go_wp2
            go_roundw
            case rel => exact ⟨k + 1, _, by omega, by go_num, by rw [HC.out, HR0.out]; exact HV3.out, HS3.out, HB3.out⟩
            case measure => simp [intOf]; omega
    · obtain rfl : k = n := by omega
      go_wp2
      go_ret
      exact ⟨_, vs, rfl, HV.out, HB.out⟩

end Go.Proofs.Ytnniiobiedfmoaa

/- from XFG -/
namespace Go.Proofs.Ytnniiobiedfmoaa
open Go.RowKit
set_option linter.unusedVariables false
set_option linter.unusedSimpArgs false
set_option maxRecDepth 100000

/-- A slice of slices by the lists at its places. -/
structure LLf (w : World) (B : Nat) (v : Value) (vs : List Value) (Z : Nat → List Int) : Prop where
  row : Rg 26 w B v vs
  at' : ∀ (i : Nat) (u : Value), vs[i]? = some u → Rd w B u (Z i)
  apart : ∀ (i j : Nat) (u z : Value), i < j → vs[i]? = some u → vs[j]? = some z → u.ownBlock = none ∨ u.ownBlock ≠ z.ownBlock

def lsZ (ls : List (List Nat)) (i : Nat) : List Int := nts (ls.getD i [])
theorem LLv.f {w : World} {B : Nat} {v : Value} {vs : List Value} {ls : List (List Nat)} (h : LLv w B v vs ls) : LLf w B v vs (lsZ ls) :=
  ⟨h.row, fun i u hu => by
    obtain ⟨l, hl, hr⟩ := h.rd hu
    unfold lsZ
    rw [List.getD_eq_getElem?_getD, hl]
    exact hr, h.apart⟩

theorem LLf.shape {w : World} {B : Nat} {v : Value} {vs : List Value} {Z : Nat → List Int} (h : LLf w B v vs Z) : ∃ a cap, v = .slice a vs.length cap ∧ (vs = [] ∨ ∃ gv, a = some ⟨gv, 0, none⟩) := by
  rcases h.row.cases with ⟨rfl, rfl⟩ | ⟨gv, cv, rfl⟩
  · exact ⟨none, 0, rfl, .inl rfl⟩
  · exact ⟨some ⟨gv, 0, none⟩, cv, rfl, .inr ⟨gv, rfl⟩⟩

theorem LLf.keep {w w' : World} {B : Nat} {v : Value} {vs : List Value} {Z : Nat → List Int} (h : LLf w B v vs Z) (hb : Below w.heap.size w w') : LLf w' B v vs Z :=
  ⟨h.row.keep hb, fun i u hu => (h.at' i u hu).keep hb, h.apart⟩
theorem LLf.mono {w : World} {B C : Nat} {v : Value} {vs : List Value} {Z : Nat → List Int} (h : LLf w B v vs Z) (hC : C ≤ B) : LLf w C v vs Z :=
  ⟨h.row.mono hC, fun i u hu => (h.at' i u hu).mono hC, h.apart⟩

/-- All blocks lie below C. -/
def Und (C : Nat) (v : Value) (vs : List Value) : Prop := (∀ k, v.ownBlock = some k → k < C) ∧ ∀ (i : Nat) (u : Value), vs[i]? = some u → ∀ k, u.ownBlock = some k → k < C
theorem LLf.und {w : World} {B : Nat} {v : Value} {vs : List Value} {Z : Nat → List Int} (h : LLf w B v vs Z) : Und w.heap.size v vs :=
  ⟨fun k hk => (h.row.lt k hk).2, fun i u hu k hk => ((h.at' i u hu).lt k hk).2⟩
theorem LLf.keepU {w w' : World} {B C : Nat} {v : Value} {vs : List Value} {Z : Nat → List Int} (h : LLf w B v vs Z) (hu : Und C v vs) (hb : Below C w w') : LLf w' B v vs Z := by
  refine ⟨?_, fun i u hi => (h.at' i u hi).keepB hb (hu.2 i u hi), h.apart⟩
  refine ⟨h.row.1, ?_⟩
  rcases h.row.2 with h2 | ⟨g, cap, cur, rfl, hg, hh, r⟩
  · exact .inl h2
  · exact .inr ⟨g, cap, cur, rfl, hg, by rw [hb.block g (hu.1 g rfl)]; exact hh, r⟩
/-- A marked slice of integers leaves them alone, if it lies apart. -/
theorem LLf.grownR {w w' : World} {B C : Nat} {v x : Value} {vs : List Value} {Z : Nat → List Int} {xs : List Int} (h : LLf w B v vs Z) (hx : Rd w C x xs) (hg : w.grownBy w' x.ownBlock) (ha : ∀ (i : Nat) (u : Value), vs[i]? = some u → u.ownBlock = none ∨ u.ownBlock ≠ x.ownBlock) : LLf w' B v vs Z :=
  ⟨h.row.grown hg (row_not_rd hx h.row), fun i u hu => (h.at' i u hu).grown hg (ha i u hu), h.apart⟩

theorem LLf.cell {w : World} {B gv cv N : Nat} {vs : List Value} {Z : Nat → List Int} (h : LLf w B (.slice (some ⟨gv, 0, none⟩) N cv) vs Z) {i : Nat} {u : Value} (hi : vs[i]? = some u) : w.cell? ⟨gv, i, none⟩ = some u := by
  obtain ⟨i1, i2⟩ := List.getElem?_eq_some_iff.1 hi
  obtain ⟨_, _, _, _, _, hc, _⟩ := h.row.at
  rw [hc i i1, i2]

theorem Rd.shape' {w : World} {B : Nat} {v : Value} {xs : List Int} (h : Rd w B v xs) : ∃ a cap, v = .slice a xs.length cap := by
  rcases h.cases with ⟨rfl, rfl⟩ | ⟨g, cap, rfl, _⟩
  · exact ⟨_, _, rfl⟩
  · exact ⟨_, _, rfl⟩

/-- Where the marks of the i-th slice begin. -/
def offZ (k : Int) (Z : Nat → List Int) : Nat → Int
  | 0 => k
  | i + 1 => offZ k Z i + ((Z i).length : Nat)
def mkZ (k : Int) (Z : Nat → List Int) (j i : Nat) : List Int := if i < j then seqF (offZ k Z i) (Z i).length else Z i

theorem LLf.congr {w : World} {B : Nat} {v : Value} {vs : List Value} {Z Y : Nat → List Int} (h : LLf w B v vs Z) (he : ∀ i, i < vs.length → Z i = Y i) : LLf w B v vs Y :=
  ⟨h.row, fun i u hu => by rw [← he i (List.getElem?_eq_some_iff.1 hu).1]; exact h.at' i u hu, h.apart⟩

theorem LLf.marked {w w' : World} {B j : Nat} {v u : Value} {vs : List Value} {k : Int} {Z : Nat → List Int} (h : LLf w B v vs (mkZ k Z j)) (hj : vs[j]? = some u) (hr : Rd w' B u (seqF (offZ k Z j) (Z j).length)) (hg : w.grownBy w' u.ownBlock) : LLf w' B v vs (mkZ k Z (j + 1)) := by
  refine ⟨h.row.grown hg (row_not_rd (h.at' j u hj) h.row), fun i z hz => ?_, h.apart⟩
  by_cases e : i = j
  · subst e
    rw [hj] at hz
    simp only [Option.some.injEq] at hz
    subst hz
    unfold mkZ
    rw [if_pos (by omega)]
    exact hr
  · have h1 := h.at' i z hz
    have hap : z.ownBlock = none ∨ z.ownBlock ≠ u.ownBlock := by
      by_cases hij : i < j
      · exact h.apart i j z u hij hz hj
      · exact apart_sym2 (h.apart j i u z (by omega) hj hz)
    have h2 := h1.grown hg hap
    unfold mkZ at h2 ⊢
    by_cases hij : i < j
    · rw [if_pos hij] at h2; rw [if_pos (by omega)]; exact h2
    · rw [if_neg hij] at h2; rw [if_neg (by omega)]; exact h2

end Go.Proofs.Ytnniiobiedfmoaa

/- from XFH -/
namespace Go.Proofs.Ytnniiobiedfmoaa
open Go.RowKit
set_option linter.unusedVariables false
set_option linter.unusedSimpArgs false
set_option maxRecDepth 100000

theorem gs_allB : (List.range 9).all (fun b => (List.range 4).all fun p => decide (gs (b + 2) (p + 1) ≤ 32805)) = true := by decide +kernel
theorem gs_bd {b p : Nat} (hb : 2 ≤ b) (hb' : b ≤ 10) (hp : 1 ≤ p) (hp' : p ≤ 4) : gs b p ≤ 32805 := by
  have h := gs_allB
  simp only [List.all_eq_true, List.mem_range, decide_eq_true_eq] at h
  have h2 := h (b - 2) (by omega) (p - 1) (by omega)
  rw [show b - 2 + 2 = b from by omega, show p - 1 + 1 = p from by omega] at h2
  exact h2

theorem gs_into {b p : Nat} (hb : 2 ≤ b) (hb' : b ≤ 16) (hp : 1 ≤ p) (hp' : p ≤ 8) : Into (ps b p) (gs b p + 1) := by
  intro x hx
  obtain ⟨f1, f2, f3, f4, f5, _⟩ := ff_spec hb hb' hp hp'
  have h1 : gs b p ≤ ff b p * (b - 1) ^ p := Nat.mul_le_mul_right _ (Nat.sub_le _ _)
  have h2 := ps_le p hb (ff b p - 1) x (by omega)
  exact Nat.lt_succ_of_le h2

theorem wpList_mkM {w : World} {ops : Array Oper} {rest : List Oper} {o : Oper} {a : Act} {Q : Exit → Act → World → Prop} (hgd : o.guard = none) (l c : Operand) (ho : o.op = Op.makeSlice 72 l c)
    (kl kc : IntKind) (L C : Int) (n : Nat) (hl : a.eval l = .int kl L) (hc : a.eval c = .int kc C) (hL : L = (n : Int)) (hC : C = (n : Int)) (hn : n ≤ 17179869184)
    (h : ∀ w', Rd w' w.heap.size (.slice (some ⟨w.heap.size, 0, none⟩) n n) (List.replicate n 0) → w.grownBy w' none → Below w.heap.size w w' → wpList Try.prog ops Q rest (a.put o.dst (.slice (some ⟨w.heap.size, 0, none⟩) n n)) w') :
    wpList Try.prog ops Q (o :: rest) a w := by
  obtain ⟨i0, hi, hz0, hz1, hz2⟩ := info_parts info3
  refine wpList_make_full w hgd l c 72 ho w.heap.size 3 i0 (.int .i64 0) 1 Try.underlying72 hi hz0 hz1 kl kc L C n hl hc hL hC (by rw [hz2]; omega) (by unfold maxLen; omega) (Nat.le_refl _) ?_
  intro w' h2 h3
  refine h w' ?_ h3 ((Below.refl _ _).grown h3 (Nat.le_refl _) (fun k hk => by cases hk))
  unfold Rd
  rw [List.length_replicate, ← toList_made]
  exact h2

/-- The first k numbers of the graph are set. -/
def gst (n : Nat) (f : Nat → Nat) (k : Nat) : List Int := lst k f ++ List.replicate (n - k) 0
theorem gst_zero (n : Nat) (f : Nat → Nat) : gst n f 0 = List.replicate n 0 := by simp [gst, lst]
theorem gst_end (n : Nat) (f : Nat → Nat) : gst n f n = lst n f := by simp [gst]
theorem gst_len {n k : Nat} (f : Nat → Nat) (h : k ≤ n) : (gst n f k).length = n := by simp [gst, lst_len]; omega
theorem gst_set {n k : Nat} (f : Nat → Nat) (h : k < n) : (gst n f k).set k ((f k : Nat) : Int) = gst n f (k + 1) := by
  unfold gst
  obtain ⟨m, hm⟩ : ∃ m, n - k = m + 1 := ⟨n - k - 1, by omega⟩
  rw [hm, show n - (k + 1) = m from by omega, List.replicate_succ, List.set_append_right _ _ (by rw [lst_len]; omega), lst_len, Nat.sub_self, lst_succ]
  simp

theorem graph_any (g c b p : Nat) (w : World) (hT : Tp w g b p) (hb : 2 ≤ b) (hb' : b ≤ 10) (hp : 1 ≤ p) (hp' : p ≤ 4) :
    Calls Try.prog 66 #[.slice (some ⟨g, 0, none⟩) b c] w fun e w' => ∃ gm cm, e = .returned (.slice (some ⟨gm, 0, none⟩) (gs b p + 1) cm) ∧ Mg w' gm (gs b p + 1) (ps b p) ∧ Below w.heap.size w w' := by
  have hgs := gs_bd hb hb' hp hp'
  have HIN := Lib.hid (gs_into (p := p) hb (show b ≤ 16 by omega) hp (show p ≤ 8 by omega))
  have HGR := Lib.hid (show ∀ w' : World, Tp w' g b p → Calls Try.prog 52 #[.slice (some ⟨g, 0, none⟩) b c] w' fun e w'' => e = .returned (.int .i64 ((gs b p : Nat) : Int)) ∧ Below w'.heap.size w' w'' from fun w' h => greatestP_any g c b p w' h hb (by omega) hp (by omega))
  have HSM := Lib.hid (show ∀ (n : Nat) (w' : World), n ≤ 40000 → Tp w' g b p → Calls Try.prog 51 #[.slice (some ⟨g, 0, none⟩) b c, .int .i64 (n : Int)] w' fun e w'' => e = .returned (.int .i64 ((ps b p n : Nat) : Int)) ∧ Below w'.heap.size w' w'' from fun n w' hn h => sumP_any g c b p n w' h hb (by omega) hp (by omega) (by omega))
  have HT := Lib.hid hT
  obtain ⟨m, hm⟩ : ∃ m, m = gs b p := ⟨_, rfl⟩
  obtain ⟨f, hf⟩ : ∃ f, f = ps b p := ⟨_, rfl⟩
  rw [← hm] at HGR HIN hgs ⊢
  rw [← hf] at HSM HIN ⊢
  obtain ⟨n, hn⟩ : ∃ n, n = m + 1 := ⟨_, rfl⟩
  have hni : (m : Int) + 1 = (n : Int) := by omega
  have hnb : n ≤ 40000 := by omega
  rw [← hn] at HIN ⊢
  have HN := Lib.hid hn
  clear hT hm hf hgs hn
  go_enter Try.func66, Try.ntmps66
  go_wp2_with fail
  refine (HGR.out _ HT.out).mono ?_
  rintro e w1 ⟨rfl, hb1⟩
  have HB1 := Lib.hid hb1
  have HT1 := Lib.hid (HT.out.keep hb1)
  clear hb1
  go_wp2_with (at_make; refine wpList_mkM rfl _ _ rfl .i64 .i64 _ _ n rfl rfl rfl rfl (by omega) ?_; intro w2 hr2 hg2 hb2; have R2 := Lib.hid (hr2.mono HB1.out.size); have T2 := Lib.hid (HT1.out.keep hb2); have HB2 := Lib.hid (Below.step HB1.out HB1.out.size hb2); have F2 := Lib.hid hb2; clear hr2 hg2 hb2)
  go_loopw [11] (fun i wr => ∃ k : Nat, k ≤ n ∧ i = .int .i64 (k : Int) ∧ Rd wr w.heap.size (.slice (some ⟨w1.heap.size, 0, none⟩) n n) (gst n f k) ∧ Below w1.heap.size w1 wr ∧ Below w.heap.size w wr) (fun i _ => n - (intOf i).toNat)
  case atStart => exact ⟨0, Nat.zero_le _, rfl, by rw [gst_zero]; exact R2.out, F2.out, HB2.out⟩
  case round =>
    obtain ⟨k, hk, rfl, hr, ht, hbl⟩ := hrel
    have HR := Lib.hid hr
    have HF := Lib.hid ht
    have HTr := Lib.hid (HT1.out.keep ht)
    have HB := Lib.hid hbl
    clear hr ht hbl
    by_cases hlt : k < n
    · obtain ⟨z, hz⟩ : ∃ z, z = f k := ⟨_, rfl⟩
      have HZ := Lib.hid hz
      have hzn : z < n := by rw [hz]; exact HIN.out k hlt
      clear hz
      go_wp2_with (go_at_call 51; refine (HSM.out k _ (by omega) HTr.out).mono ?_; rw [← HZ.out]; rintro e w3 ⟨rfl, hb3⟩; have R3 := Lib.hid (HR.out.keep hb3); have F3 := Lib.hid (Below.step HF.out HF.out.size hb3); have B3 := Lib.hid (Below.step HB.out HB.out.size hb3); obtain ⟨q0, hq0⟩ : ∃ q, w3.cell? ⟨w1.heap.size, k, none⟩ = some (.int .i64 q) := ⟨_, R3.out.at.2.2.2.2.1 k (by rw [gst_len f hk]; exact hlt)⟩; have hfz := R3.out.at.2.2.2.2.2 k; clear hb3)
      have RS := Lib.hid (R3.out.set k (z : Int))
      have BS := Lib.hid (B3.out.setCell (p := ⟨w1.heap.size, k, none⟩) HB1.out.size (.int .i64 (z : Int)))
      have FS := Lib.hid (F3.out.setCell (p := ⟨w1.heap.size, k, none⟩) (Nat.le_refl _) (.int .i64 (z : Int)))
      go_wp2
      go_roundw
      case rel => exact ⟨k + 1, by omega, by go_num, by rw [← gst_set f hlt, ← HZ.out]; exact RS.out.1, FS.out, BS.out⟩
      case measure => simp [intOf]; omega
    · obtain rfl : k = n := by omega
      have HRe := Lib.hid (show Rd wr w.heap.size (.slice (some ⟨w1.heap.size, 0, none⟩) k k) (lst k f) by rw [← gst_end]; exact HR.out)
      go_wp2
      go_ret
      exact ⟨_, _, rfl, ⟨HRe.out.at.2.2.1, fun j hj => by rw [HRe.out.at.2.2.2.2.1 j (by rw [lst_len]; exact hj), lst_at], HIN.out, by omega, hnb⟩, HB.out⟩

end Go.Proofs.Ytnniiobiedfmoaa

/- from XFI -/
namespace Go.Proofs.Ytnniiobiedfmoaa
open Go.RowKit
set_option linter.unusedVariables false
set_option linter.unusedSimpArgs false
set_option maxRecDepth 100000

def OKC (b p : Int) : Bool := decide (Bas10 b ∧ Pow p 4)
def LF_CyclesOfPowers (b p : Int) : List (List Nat) := if OKC b p = true then cycs (ps b.toNat p.toNat) (gs b.toNat p.toNat + 1) else []
theorem okc_cases (b p : Int) : (OKC b p = true ∧ ∃ B P : Nat, b = (B : Int) ∧ p = (P : Int) ∧ 2 ≤ B ∧ B ≤ 10 ∧ 1 ≤ P ∧ P ≤ 4) ∨ OKC b p = false := by
  cases h : OKC b p
  · exact .inr rfl
  · obtain ⟨h2, h3⟩ := of_decide_eq_true h
    obtain ⟨h2a, h2b⟩ := h2
    obtain ⟨h3a, h3b⟩ := h3
    exact .inl ⟨rfl, b.toNat, p.toNat, by omega, by omega, by omega, by omega, by omega, by omega⟩

theorem impl_CyclesOfPowers (b p : Int) (w : World) :
    Calls Try.prog 27 #[.int .i64 b, .int .i64 p] w fun e w' => ∃ u vs, e = .returned (.tuple #[u, .bool (OKC b p)]) ∧ LLv w' w.heap.size u vs (LF_CyclesOfPowers b p) ∧ Below w.heap.size w w' := by
  rcases okc_cases b p with ⟨hok, B, P, rfl, rfl, h1, h2, h3, h4⟩ | hn
  · have HO := Lib.hid hok
    have HL := Lib.hid (show LF_CyclesOfPowers (B : Int) (P : Int) = cycs (ps B P) (gs B P + 1) by unfold LF_CyclesOfPowers; rw [if_pos hok]; rfl)
    have a2 : decide (Bas10 (B : Int)) = true := decide_eq_true ⟨by omega, by omega⟩
    have a3 : decide (Pow (P : Int) 4) = true := decide_eq_true ⟨by omega, by omega⟩
    obtain ⟨n, hnn⟩ : ∃ n, n = gs B P + 1 := ⟨_, rfl⟩
    have HG := Lib.hid (show ∀ (g c : Nat) (w' : World), Tp w' g B P → Calls Try.prog 66 #[.slice (some ⟨g, 0, none⟩) B c] w' fun e w'' => ∃ gm cm, e = .returned (.slice (some ⟨gm, 0, none⟩) n cm) ∧ Mg w'' gm n (ps B P) ∧ Below w'.heap.size w' w'' from fun g c w' h => by rw [hnn]; exact graph_any g c B P w' h h1 h2 h3 h4)
    rw [← hnn] at HL
    clear hok hnn
    go_enter Try.func27, Try.ntmps27
    go_wp2_with (first | (go_at_call 65; refine (isSearchedBase_any _ _).mono ?_; rintro e w1 ⟨rfl, rfl⟩) | (go_at_call 49; refine (isPower_any _ _ _).mono ?_; rintro e w1 ⟨rfl, rfl⟩))
    refine (powersOf_any B P _ (by omega) (by omega) (by omega) (by omega)).mono ?_
    rintro e w1 ⟨g, c, rfl, hg, hT, hB⟩
    have HT := Lib.hid hT
    have HB := Lib.hid hB
    clear hg hT hB
    go_wp2_with fail
    refine (HG.out g c _ HT.out).mono ?_
    rintro e w2 ⟨gm, cm, rfl, hm, hb2⟩
    have HM := Lib.hid hm
    have HB2 := Lib.hid (Below.step HB.out HB.out.size hb2)
    clear hm hb2
    go_wp2_with fail
    refine (cycles_any gm n cm _ _ HM.out).mono ?_
    rintro e w3 ⟨v, vs, rfl, hv, hb3⟩
    have HV := Lib.hid (hv.mono HB2.out.size)
    have HB3 := Lib.hid (Below.step HB2.out HB2.out.size hb3)
    clear hv hb3
    go_wp2
    go_ret2
    exact ⟨_, vs, by rw [HO.out]; rfl, by rw [HL.out]; exact HV.out, HB3.out⟩
  · have HO := Lib.hid hn
    have HL := Lib.hid (show LF_CyclesOfPowers b p = [] by unfold LF_CyclesOfPowers; rw [hn]; rfl)
    have hnot := of_decide_eq_false hn
    by_cases hb : Bas10 b
    · have a2 : decide (Bas10 b) = true := decide_eq_true hb
      have a3 : decide (Pow p 4) = false := decide_eq_false (fun h => hnot ⟨hb, h⟩)
      clear hn hnot hb
      go_enter Try.func27, Try.ntmps27
      go_wp2_with (first | (go_at_call 65; refine (isSearchedBase_any _ _).mono ?_; rintro e w1 ⟨rfl, rfl⟩) | (go_at_call 49; refine (isPower_any _ _ _).mono ?_; rintro e w1 ⟨rfl, rfl⟩))
      go_ret2
      exact ⟨_, [], by rw [HO.out]; rfl, by rw [HL.out]; exact LLv.nil _ _, Below.refl _ _⟩
    · have a2 : decide (Bas10 b) = false := decide_eq_false hb
      clear hn hnot hb
      go_enter Try.func27, Try.ntmps27
      go_wp2_with (go_at_call 65; refine (isSearchedBase_any _ _).mono ?_; rintro e w1 ⟨rfl, rfl⟩)
      go_ret2
      exact ⟨_, [], by rw [HO.out]; rfl, by rw [HL.out]; exact LLv.nil _ _, Below.refl _ _⟩

/-- The lists are not too many and not too long. -/
theorem LF_CyclesOfPowers_bd (b p : Int) : (LF_CyclesOfPowers b p).length ≤ 40000 ∧ ∀ i, (lsZ (LF_CyclesOfPowers b p) i).length ≤ 40000 := by
  unfold LF_CyclesOfPowers
  rcases okc_cases b p with ⟨hok, B, P, rfl, rfl, h1, h2, h3, h4⟩ | hn
  · rw [if_pos hok]
    simp only [Int.toNat_natCast]
    have hg := gs_bd h1 h2 h3 h4
    have hi := gs_into (p := P) h1 (show B ≤ 16 by omega) h3 (show P ≤ 8 by omega)
    have hle := cycsTo_len (ps B P) (gs B P + 1) (gs B P + 1)
    refine ⟨by unfold cycs; omega, fun i => ?_⟩
    unfold lsZ
    rw [nts_len, List.getD_eq_getElem?_getD]
    cases hc : (cycs (ps B P) (gs B P + 1))[i]? with
    | none => simp
    | some l =>
      have hm := List.mem_of_getElem? hc
      unfold cycs cycsTo at hm
      rw [List.mem_map] at hm
      obtain ⟨x, hx, rfl⟩ := hm
      rw [List.mem_filter] at hx
      rw [Option.getD_some, rnd_len]
      have := (per_spec hi ((lead_iff hi).1 hx.2).1).2.1
      omega
  · rw [hn]; exact ⟨by simp, fun i => by simp [lsZ, nts]⟩

theorem offZ_bd {Z : Nat → List Int} (h : ∀ i, (Z i).length ≤ 40000) : ∀ i, 0 ≤ offZ 1 Z i ∧ offZ 1 Z i ≤ 1 + 40000 * i
  | 0 => by simp [offZ]
  | i + 1 => by
    have := offZ_bd h i
    have := h i
    simp only [offZ]
    push_cast
    omega

end Go.Proofs.Ytnniiobiedfmoaa

/- from XFJ -/
namespace Go.Proofs.Ytnniiobiedfmoaa
open Go.RowKit
set_option linter.unusedVariables false
set_option linter.unusedSimpArgs false
set_option maxRecDepth 100000

/-- The marks after all runs from numbers below k. -/
def Inv (f : Nat → Nat) (n k : Nat) (s : Nat → Nat) : Prop := ∀ y, y < n → s y ≤ k ∧ (s y = 0 ↔ ∀ x, x < k → ∀ j, it f j x ≠ y)
/-- .. with the first j numbers of the run from k marked. -/
def sJ (f : Nat → Nat) (k j : Nat) (s : Nat → Nat) : Nat → Nat := fun y => if (List.range j).any (fun i => it f i k == y) = true then k + 1 else s y
theorem inv_zero (f : Nat → Nat) (n : Nat) : Inv f n 0 (fun _ => 0) := fun y _ => ⟨Nat.le_refl _, fun _ x hx => by omega, fun _ => rfl⟩
theorem sJ_zero (f : Nat → Nat) (k : Nat) (s : Nat → Nat) : sJ f k 0 s = s := by funext y; simp [sJ]
theorem sJ_any {f : Nat → Nat} {k j y : Nat} : ((List.range j).any fun i => it f i k == y) = true ↔ ∃ i, i < j ∧ it f i k = y := by simp
theorem sJ_step (f : Nat → Nat) (k j : Nat) (s : Nat → Nat) : (fun y => if y = it f j k then k + 1 else sJ f k j s y) = sJ f k (j + 1) s := by
  funext y
  unfold sJ
  by_cases e : y = it f j k
  · subst e
    rw [if_pos rfl, if_pos (sJ_any.2 ⟨j, by omega, rfl⟩)]
  · rw [if_neg e]
    by_cases h : ∃ i, i < j ∧ it f i k = y
    · obtain ⟨i, hi, he⟩ := h
      rw [if_pos (sJ_any.2 ⟨i, hi, he⟩), if_pos (sJ_any.2 ⟨i, by omega, he⟩)]
    · rw [if_neg (fun h2 => h (sJ_any.1 h2)), if_neg]
      intro h2
      obtain ⟨i, hi, he⟩ := sJ_any.1 h2
      by_cases e2 : i = j
      · subst e2; exact e he.symm
      · exact h ⟨i, by omega, he⟩
theorem sJ_yes {f : Nat → Nat} {k j y : Nat} {s : Nat → Nat} (h : ∃ i, i < j ∧ it f i k = y) : sJ f k j s y = k + 1 := by unfold sJ; rw [if_pos (sJ_any.2 h)]
theorem sJ_no {f : Nat → Nat} {k j y : Nat} {s : Nat → Nat} (h : ¬ ∃ i, i < j ∧ it f i k = y) : sJ f k j s y = s y := by unfold sJ; rw [if_neg (fun h2 => h (sJ_any.1 h2))]

/-- How many marks are still missing. -/
def zs (n : Nat) (s : Nat → Nat) : Nat := cnt3 n (fun y => s y == 0)
theorem zs_mark {n x q : Nat} {s : Nat → Nat} (hx : x < n) (h : s x = 0) (hq : q ≠ 0) : zs n (fun y => if y = x then q else s y) + 1 = zs n s := by
  have h1 := cnt_del (fun y => s y == 0) x n hx
  have h2 : cnt3 n (adj (fun y => s y == 0) x false) = zs n (fun y => if y = x then q else s y) := cnt_congr fun y _ => by
    unfold adj
    by_cases e : y = x
    · subst e; simp [hq]
    · simp [e]
  rw [h2, if_pos (by simp [h])] at h1
  exact h1

theorem bd_sJ {f : Nat → Nat} {n k j : Nat} {s : Nat → Nat} (h : Inv f n k s) {y : Nat} (hy : y < n) : sJ f k j s y ≤ k + 1 := by
  by_cases hm : ∃ i, i < j ∧ it f i k = y
  · rw [sJ_yes hm]; exact Nat.le_refl _
  · rw [sJ_no hm]; have := (h y hy).1; omega

/-- The run from k comes to what was seen before. -/
theorem inv_old {f : Nat → Nat} {n k j : Nat} {s : Nat → Nat} (hi : Into f n) (h : Inv f n k s) (hk : k < n) (h0 : ∀ i, i < j → s (it f i k) = 0) (hs : sJ f k j s (it f j k) ≠ 0) (hn : sJ f k j s (it f j k) ≠ k + 1) :
    Inv f n (k + 1) (sJ f k j s) ∧ ∀ m, lead f n m = true → ((sJ f k j s m ≠ 0) ↔ s m ≠ 0) := by
  have hno : ¬ ∃ i, i < j ∧ it f i k = it f j k := fun h2 => hn (sJ_yes h2)
  rw [sJ_no hno] at hs
  have hxn := it_lt hi j hk
  have hold : ∃ x, x < k ∧ ∃ i, it f i x = it f j k := by
    refine Classical.byContradiction fun hc => hs ((h _ hxn).2.2 fun x hx i he => hc ⟨x, hx, i, he⟩)
  obtain ⟨x0, hx0, i0, he0⟩ := hold
  have hlate : ∀ i y, j ≤ i → it f i k = y → ∃ x, x < k ∧ ∃ t, it f t x = y := fun i y hi2 he => ⟨x0, hx0, (i - j) + i0, by rw [it_add, he0, ← it_add, show i - j + j = i from by omega, he]⟩
  refine ⟨fun y hy => ⟨bd_sJ h hy, ?_, ?_⟩, fun m hm => ?_⟩
  · intro hz x hx i he
    by_cases hm : ∃ i, i < j ∧ it f i k = y
    · rw [sJ_yes hm] at hz; omega
    · rw [sJ_no hm] at hz
      have hnone := (h y hy).2.1 hz
      by_cases e : x = k
      · subst e
        by_cases hij : i < j
        · exact hm ⟨i, hij, he⟩
        · obtain ⟨x1, hx1, t, ht⟩ := hlate i y (by omega) he
          exact hnone x1 hx1 t ht
      · exact hnone x (by omega) i he
  · intro hall
    have hm : ¬ ∃ i, i < j ∧ it f i k = y := fun ⟨i, _, he⟩ => hall k (by omega) i he
    rw [sJ_no hm]
    exact (h y hy).2.2 fun x hx => hall x (by omega)
  · by_cases hmm : ∃ i, i < j ∧ it f i k = m
    · obtain ⟨i, hij, he⟩ := hmm
      exfalso
      have hc := ((lead_iff hi).1 hm).1
      obtain ⟨p1, p2, p3, p4⟩ := per_spec hi hc
      have hz := h0 i hij
      rw [he] at hz
      have hmn := cyc_lt hi hc
      have e2 : it f (j * per f n m + i) k = m := by rw [it_add, he, it_mul p3]
      have hle : j ≤ j * per f n m := Nat.le_mul_of_pos_right j p1
      obtain ⟨x1, hx1, t, ht⟩ := hlate _ m (by omega) e2
      exact (h m hmn).2.1 hz x1 hx1 t ht
    · rw [sJ_no hmm]

/-- The run from k comes to a new cycle. -/
theorem inv_new {f : Nat → Nat} {n k j : Nat} {s : Nat → Nat} (hi : Into f n) (h : Inv f n k s) (hk : k < n) (h0 : ∀ i, i < j → s (it f i k) = 0) (hs : sJ f k j s (it f j k) = k + 1) :
    cyc f n (it f j k) = true ∧ Inv f n (k + 1) (sJ f k j s) ∧ ∀ m0, lead f n m0 = true → m0 ∈ rnd f n (it f j k) → s m0 = 0 ∧ ∀ m, lead f n m = true → ((sJ f k j s m ≠ 0) ↔ s m ≠ 0 ∨ m = m0) := by
  have hxn := it_lt hi j hk
  have hyes : ∃ i, i < j ∧ it f i k = it f j k := by
    refine Classical.byContradiction fun hc => ?_
    rw [sJ_no hc] at hs
    have := (h _ hxn).1
    omega
  obtain ⟨i0, hi0, he0⟩ := hyes
  have hper : it f (j - i0) (it f j k) = it f j k := by
    conv => lhs; rw [← he0]
    rw [← it_add, show j - i0 + i0 = j from by omega]
  have hc := cyc_of_per hi hxn (by omega) hper
  have hback : ∀ i, ∃ t, t < j ∧ it f i k = it f t k := by
    intro i
    induction i using Nat.strongRecOn with
    | ind i ih =>
      by_cases hij : i < j
      · exact ⟨i, hij, rfl⟩
      · obtain ⟨t, ht, he⟩ := ih (i - (j - i0)) (by omega)
        refine ⟨t, ht, ?_⟩
        rw [← he]
        have e1 : it f i k = it f (i - j) (it f j k) := by rw [← it_add, show i - j + j = i from by omega]
        rw [e1, ← he0, ← it_add]
        congr 1
        omega
  have hfresh : ∀ i x, x < k → ∀ t, it f t x ≠ it f i k := by
    intro i x hx t he
    obtain ⟨t2, ht2, he2⟩ := hback i
    exact (h _ (it_lt hi t2 hk)).2.1 (h0 t2 ht2) x hx t (he.trans he2)
  refine ⟨hc, fun y hy => ⟨bd_sJ h hy, ?_, ?_⟩, fun m0 hl0 hm0 => ?_⟩
  · intro hz x hx i he
    by_cases hm : ∃ i, i < j ∧ it f i k = y
    · rw [sJ_yes hm] at hz; omega
    · rw [sJ_no hm] at hz
      by_cases e : x = k
      · subst e
        obtain ⟨t, ht, he2⟩ := hback i
        exact hm ⟨t, ht, he2.symm.trans he⟩
      · exact (h y hy).2.1 hz x (by omega) i he
  · intro hall
    have hm : ¬ ∃ i, i < j ∧ it f i k = y := fun ⟨i, _, he⟩ => hall k (by omega) i he
    rw [sJ_no hm]
    exact (h y hy).2.2 fun x hx => hall x (by omega)
  · obtain ⟨t0, ht0, het0⟩ := mem_rnd.1 hm0
    have hm0k : it f (t0 + j) k = m0 := by rw [it_add, het0]
    have hz0 : s m0 = 0 := by
      rw [← hm0k]
      exact (h _ (it_lt hi _ hk)).2.2 fun x hx t => hfresh _ x hx t
    refine ⟨hz0, fun m hm => ?_⟩
    constructor
    · intro hne
      by_cases hmm : ∃ i, i < j ∧ it f i k = m
      · right
        obtain ⟨i, hij, he⟩ := hmm
        have hcm := ((lead_iff hi).1 hm).1
        obtain ⟨p1, p2, p3, p4⟩ := per_spec hi hcm
        have e2 : it f (j * per f n m + i) k = m := by rw [it_add, he, it_mul p3]
        have hle : j ≤ j * per f n m := Nat.le_mul_of_pos_right j p1
        have e3 : it f (j * per f n m + i - j) (it f j k) = m := by rw [← it_add, show j * per f n m + i - j + j = j * per f n m + i from by omega, e2]
        have hmr : m ∈ rnd f n (it f j k) := e3 ▸ mem_rnd_any hi hc _
        have hb1 := rnd_back hi hc hm0
        have hb2 := rnd_back hi hc hmr
        have r1 : m ∈ rnd f n m0 := rnd_trans hi hb1.2 hb1.1 hmr
        have r2 : m0 ∈ rnd f n m := rnd_trans hi hb2.2 hb2.1 hm0
        have l1 := ((lead_iff hi).1 hl0).2 m r1
        have l2 := ((lead_iff hi).1 hm).2 m0 r2
        omega
      · rw [sJ_no hmm] at hne; exact .inl hne
    · rintro (hne | rfl)
      · by_cases hmm : ∃ i, i < j ∧ it f i k = m
        · rw [sJ_yes hmm]; omega
        · rw [sJ_no hmm]; exact hne
      · obtain ⟨t, ht, he2⟩ := hback (t0 + j)
        rw [sJ_yes ⟨t, ht, he2.symm.trans hm0k⟩]; omega

/-- The first numbers of the cycles found so far. -/
def ld (f : Nat → Nat) (n : Nat) (s : Nat → Nat) : List Nat := (List.range n).filter fun m => lead f n m && decide (s m ≠ 0)
theorem ld_zero (f : Nat → Nat) (n : Nat) : ld f n (fun _ => 0) = [] := by
  unfold ld
  rw [List.filter_eq_nil_iff]
  intro m _
  simp
theorem ld_congr {f : Nat → Nat} {n : Nat} {s t : Nat → Nat} (h : ∀ m, lead f n m = true → ((t m ≠ 0) ↔ s m ≠ 0)) : ld f n t = ld f n s := by
  unfold ld
  refine List.filter_congr fun m _ => ?_
  cases hl : lead f n m
  · rfl
  · rw [Bool.true_and, Bool.true_and, decide_eq_decide]; exact h m hl
theorem ld_all {f : Nat → Nat} {n : Nat} {s : Nat → Nat} (h : Inv f n n s) : (ld f n s).map (rnd f n) = cycs f n := by
  unfold cycs cycsTo ld
  congr 1
  refine List.filter_congr fun m hm => ?_
  rw [List.mem_range] at hm
  have : s m ≠ 0 := fun hz => (h m hm).2.1 hz m hm 0 rfl
  simp [this]
theorem ld_len (f : Nat → Nat) (n : Nat) (s : Nat → Nat) : (ld f n s).length ≤ n := by
  unfold ld
  have := List.length_filter_le (fun m => lead f n m && decide (s m ≠ 0)) (List.range n)
  rw [List.length_range] at this
  exact this

theorem put_split (P Q : Nat → Bool) (m : Nat) (hP : P m = false) (hQ : Q m = true) (he : ∀ x, x ≠ m → Q x = P x) : ∀ d, ∃ l2 : List Nat, (List.range (m + 1 + d)).filter P = (List.range m).filter P ++ l2 ∧ (List.range (m + 1 + d)).filter Q = (List.range m).filter P ++ m :: l2 ∧ ∀ z ∈ l2, m < z
  | 0 => ⟨[], by rw [Nat.add_zero, List.range_succ, List.filter_append]; simp [hP], by
      rw [Nat.add_zero, List.range_succ, List.filter_append]
      have : (List.range m).filter Q = (List.range m).filter P := List.filter_congr fun x hx => he x (by rw [List.mem_range] at hx; omega)
      rw [this]; simp [hQ], by simp⟩
  | d + 1 => by
    obtain ⟨l2, h1, h2, h3⟩ := put_split P Q m hP hQ he d
    have hq := he (m + 1 + d) (by omega)
    rw [← Nat.add_assoc, List.range_succ, List.filter_append, List.filter_append, h1, h2]
    by_cases hp : P (m + 1 + d) = true
    · refine ⟨l2 ++ [m + 1 + d], ?_, ?_, ?_⟩
      · simp [hp]
      · rw [hp] at hq; simp [hq]
      · intro z hz
        rw [List.mem_append, List.mem_singleton] at hz
        rcases hz with hz | rfl
        · exact h3 z hz
        · omega
    · have hp' : P (m + 1 + d) = false := by simpa using hp
      rw [hp'] at hq
      exact ⟨l2, by simp [hp'], by simp [hq], h3⟩

/-- A new cycle's place. -/
theorem ld_put {f : Nat → Nat} {n : Nat} {s t : Nat → Nat} {m0 : Nat} (hm : m0 < n) (hl : lead f n m0 = true) (hz : s m0 = 0) (h : ∀ m, lead f n m = true → ((t m ≠ 0) ↔ s m ≠ 0 ∨ m = m0)) :
    ∃ i, i ≤ (ld f n s).length ∧ ld f n t = (ld f n s).take i ++ [m0] ++ (ld f n s).drop i ∧ (∀ j (hj : j < (ld f n s).length), j < i → (ld f n s)[j] < m0) ∧ ∀ (hj : i < (ld f n s).length), m0 < (ld f n s)[i] := by
  obtain ⟨d, hd⟩ : ∃ d, n = m0 + 1 + d := ⟨n - (m0 + 1), by omega⟩
  obtain ⟨l2, h1, h2, h3⟩ := put_split (fun m => lead f n m && decide (s m ≠ 0)) (fun m => lead f n m && decide (t m ≠ 0)) m0 (by simp [hz]) (by
      rw [hl, Bool.true_and]; exact decide_eq_true ((h m0 hl).2 (.inr rfl))) (fun x hx => by
      cases hlx : lead f n x
      · rfl
      · rw [Bool.true_and, Bool.true_and, decide_eq_decide]
        exact (h x hlx).trans ⟨fun hh => hh.elim id (fun e => absurd e hx), .inl⟩) d
  rw [← hd] at h1 h2
  have e1 : ld f n s = ((List.range m0).filter fun m => lead f n m && decide (s m ≠ 0)) ++ l2 := h1
  have e2 : ld f n t = ((List.range m0).filter fun m => lead f n m && decide (s m ≠ 0)) ++ m0 :: l2 := h2
  obtain ⟨l1, hl1⟩ : ∃ l1, l1 = (List.range m0).filter fun m => lead f n m && decide (s m ≠ 0) := ⟨_, rfl⟩
  rw [← hl1] at e1 e2
  have hlt : ∀ z ∈ l1, z < m0 := fun z hzz => by rw [hl1, List.mem_filter, List.mem_range] at hzz; exact hzz.1
  rw [e1, e2]
  refine ⟨l1.length, by simp, by simp, fun j hj hj2 => ?_, fun hj => ?_⟩
  · rw [List.getElem_append_left hj2]
    exact hlt _ (List.getElem_mem hj2)
  · rw [List.getElem_append_right (Nat.le_refl _)]
    exact h3 _ (List.getElem_mem _)

end Go.Proofs.Ytnniiobiedfmoaa

/- from XFK -/
namespace Go.Proofs.Ytnniiobiedfmoaa
open Go.RowKit
set_option linter.unusedVariables false
set_option linter.unusedSimpArgs false
set_option maxRecDepth 100000

theorem miTo_le (xs : List Int) : ∀ k t, t < k → xs.getD (miTo xs k) 0 ≤ xs.getD t 0
  | 0, t, h => absurd h (Nat.not_lt_zero _)
  | k + 1, t, h => by
    rw [miTo_succ]
    by_cases hlt : xs.getD k 0 < xs.getD (miTo xs k) 0
    · rw [if_pos hlt]
      by_cases e : t = k
      · subst e; exact Int.le_refl _
      · have := miTo_le xs k t (by omega); omega
    · rw [if_neg hlt]
      by_cases e : t = k
      · subst e; omega
      · exact miTo_le xs k t (by omega)

theorem run_cyc {f : Nat → Nat} {n M x : Nat} (hi : Into f n) (hc : cyc f n x = true) (h : ∀ k, it f (k + 1) x < M) : tl f M x = 0 ∧ rl f M x = per f n x ∧ run f M x = nts (rnd f n x) := by
  obtain ⟨p1, p2, p3, p4⟩ := per_spec hi hc
  obtain ⟨s1, s2, s3, s4, s5, s6⟩ := rl_spec h
  have hle : per f n x ≤ rl f M x := by
    refine Classical.byContradiction fun hgt => ?_
    exact per_inj hi hc s3 (by omega) s4
  obtain ⟨h1, h2⟩ := rl_at h hle (show 0 < per f n x by omega) (by rw [p3]; rfl)
  refine ⟨h2.symm, h1.symm, ?_⟩
  unfold run nts rnd
  rw [← h1, List.map_map]
  rfl

theorem nts_rnd_get {f : Nat → Nat} {n x i : Nat} (h : i < per f n x) : (nts (rnd f n x))[i]? = some ((it f i x : Nat) : Int) := by
  simp [nts, rnd, h]

theorem turn_rnd {f : Nat → Nat} {n x : Nat} (hi : Into f n) (hc : cyc f n x = true) : ∃ m, m < n ∧ lead f n m = true ∧ m ∈ rnd f n x ∧ turn (nts (rnd f n x)) = nts (rnd f n m) := by
  obtain ⟨p1, p2, p3, p4⟩ := per_spec hi hc
  obtain ⟨xs, hxs⟩ : ∃ xs, xs = nts (rnd f n x) := ⟨_, rfl⟩
  have hlen : xs.length = per f n x := by rw [hxs, nts_len, rnd_len]
  obtain ⟨q, hq⟩ : ∃ q, q = mi xs := ⟨_, rfl⟩
  have hqp : q < per f n x := by rw [hq, ← hlen]; exact mi_lt (by omega)
  have hg : ∀ i, i < per f n x → xs[i]? = some ((it f i x : Nat) : Int) := fun i h => by rw [hxs]; exact nts_rnd_get h
  have hgd : ∀ i, i < per f n x → xs.getD i 0 = ((it f i x : Nat) : Int) := fun i h => by rw [List.getD_eq_getElem?_getD, hg i h]; rfl
  have hcm := cyc_it hi hc q
  have hmr : it f q x ∈ rnd f n x := mem_rnd.2 ⟨q, hqp, rfl⟩
  have hper : per f n (it f q x) = per f n x := by
    refine per_eq hi hcm p1 ?_ fun j j1 j2 he => ?_
    · rw [← it_add, Nat.add_comm, it_add, p3]
    · have e1 : it f (per f n x - q) (it f q x) = x := by rw [← it_add, show per f n x - q + q = per f n x from by omega, p3]
      have e2 : it f j x = x := by
        conv => lhs; rw [← e1]
        rw [← it_add, Nat.add_comm, it_add, he, e1]
      exact p4 j j1 j2 e2
  refine ⟨it f q x, cyc_lt hi hcm, (lead_iff hi).2 ⟨hcm, fun z hz => ?_⟩, hmr, ?_⟩
  · obtain ⟨t, ht, rfl⟩ := mem_rnd.1 (rnd_trans hi hc hmr hz)
    have h1 := miTo_le xs xs.length t (by omega)
    have h2 : xs.getD q 0 ≤ xs.getD t 0 := by rw [hq]; exact h1
    rw [hgd q hqp, hgd t ht] at h2
    omega
  · rw [← hxs]
    unfold turn
    rw [← hq]
    refine List.ext_getElem? fun i => ?_
    by_cases hip : i < per f n x
    · have hr : (nts (rnd f n (it f q x)))[i]? = some ((it f i (it f q x) : Nat) : Int) := nts_rnd_get (by rw [hper]; exact hip)
      rw [hr]
      by_cases hiq : i < per f n x - q
      · rw [List.getElem?_append_left (by rw [List.length_drop, hlen]; exact hiq), List.getElem?_drop, hg _ (by omega), ← it_add, Nat.add_comm]
      · rw [List.getElem?_append_right (by rw [List.length_drop, hlen]; omega), List.length_drop, hlen, List.getElem?_take, if_pos (by omega), hg _ (by omega), ← it_add]
        rw [show i + q = i - (per f n x - q) + per f n x from by omega, it_add, p3]
    · rw [List.getElem?_eq_none (by simp; omega), List.getElem?_eq_none (by rw [nts_len, rnd_len, hper]; omega)]

/-- A slice of one-cell values that is read: nothing, or cells from an address on. -/
def SrcG (w : World) (u : Value) (ys : List Value) : Prop := (u = .slice none 0 0 ∧ ys = []) ∨ ∃ (ad : Addr) (c : Nat), u = .slice (some ad) ys.length c ∧ ∀ j (h : j < ys.length), w.cell? (ad.add j) = some ys[j]

theorem wpList_appGS {w : World} {ops : Array Oper} {rest : List Oper} {o : Oper} {a : Act} {Q : Exit → Act → World → Prop} (hgd : o.guard = none) (s x : Operand) (t e : TypeId) (z : Value) (bytes : Nat)
    (ht : Try.prog.underlying t = some (.slice e)) (hinfo : (Try.prog.info? e).map (fun i => (i.zero, i.size, i.bytes)) = some (some z, 1, bytes)) (hby : bytes ≤ 24) (hz1 : z.cells.size = 1)
    (ho : o.op = .call { callee := .builtin .append, args := #[s, x], argTypes := #[t, t] })
    (B : Nat) (v u : Value) (xs ys : List Value) (hs : a.eval s = v) (hx : a.eval x = u) (hv : Rg e w B v xs) (hu : SrcG w u ys) (h1 : ∀ q ∈ ys, q.oneCell' = true)
    (hlen : xs.length + ys.length ≤ 2000000) (hB : B ≤ w.heap.size)
    (h : ∀ v' w', Rg e w' B v' (xs ++ ys) → w.grownBy w' v.ownBlock → Below B w w' → wpList Try.prog ops Q rest (a.put o.dst v') w') : wpList Try.prog ops Q (o :: rest) a w := by
  obtain ⟨i0, hi, hz0, hz2, hz3⟩ := info_parts hinfo
  have hbel : ∀ w', w.grownBy w' v.ownBlock → Below B w w' := fun w' hg => (Below.refl _ _).grown hg hB (fun k hk => (hv.lt k hk).1)
  rcases hu with ⟨rfl, rfl⟩ | ⟨ad, cap, rfl, hc⟩
  · refine wpList_append_own_none hgd s x t ho B e i0 1 ht hi v xs.length _ hs hv hx ?_
    exact h v w (by simpa using hv) (World.grownBy.refl _ _) (Below.refl _ _)
  · refine wpList_append_own w hgd s x t ho B e i0 z 1 bytes ht hi hz0 hz2 hz3 hz1 (by decide) v xs.length _ hs hv ad ys.length cap ys hx (by simp) ?_ h1 (by unfold maxLen; omega) (by have := Nat.mul_le_mul hlen hby; omega) hB ?_
    · intro j q hj
      have hj' : j < ys.length := (List.getElem?_eq_some_iff.1 hj).1
      rw [hc j hj', ← hj]
      simp [hj']
    · intro v' w' h2 h3 _
      refine h v' w' ?_ h3 (hbel w' h3)
      unfold Rg
      rw [List.length_append]
      exact h2

theorem SrcG.keep {w w' : World} {u : Value} {ys : List Value} (h : SrcG w u ys) (hb : Below w.heap.size w w') : SrcG w' u ys := by
  rcases h with h | ⟨ad, c, h1, h2⟩
  · exact .inl h
  · exact .inr ⟨ad, c, h1, fun j hj => Below.keeps_cell hb (h2 j hj)⟩

theorem rg_empty (e : TypeId) (w : World) : Rg e (w.alloc (.cells #[] e)) w.heap.size (.slice (some ⟨w.heap.size, 0, none⟩) 0 0) [] :=
  World.ownsRow_lit (e := e) (size := 1) (base := w.heap.size) w #[] 0 (Nat.le_refl _) (by unfold maxLen; omega) rfl

theorem ins_get {α : Type} (xs : List α) (u : α) (i : Nat) (hi : i ≤ xs.length) (j : Nat) : (xs.take i ++ [u] ++ xs.drop i)[j]? = if j < i then xs[j]? else if j = i then some u else xs[j - 1]? := by
  have hl : (xs.take i).length = i := by rw [List.length_take]; omega
  by_cases h1 : j < i
  · rw [if_pos h1, List.append_assoc, List.getElem?_append_left (by omega), List.getElem?_take, if_pos h1]
  · rw [if_neg h1]
    by_cases h2 : j = i
    · subst h2
      rw [if_pos rfl, List.append_assoc, List.getElem?_append_right (by omega), hl, Nat.sub_self]
      rfl
    · rw [if_neg h2, List.getElem?_append_right (by simp; omega), List.length_append, hl, List.getElem?_drop, List.length_singleton]
      congr 1
      omega

theorem LLv.apart' {w : World} {B i j : Nat} {v u z : Value} {vs : List Value} {ls : List (List Nat)} (h : LLv w B v vs ls) (hij : i ≠ j) (hi : vs[i]? = some u) (hj : vs[j]? = some z) : u.ownBlock = none ∨ u.ownBlock ≠ z.ownBlock := by
  by_cases hlt : i < j
  · exact h.apart i j u z hlt hi hj
  · exact apart_sym2 (h.apart j i z u (by omega) hj hi)

theorem LLv.ins {w w' : World} {B i : Nat} {v v' u : Value} {vs : List Value} {ls : List (List Nat)} {l : List Nat} (h : LLv w B v vs ls) (hil : i ≤ vs.length) (hu : Rd w B u (nts l)) (ha : ∀ (i : Nat) (z : Value), vs[i]? = some z → z.ownBlock = none ∨ z.ownBlock ≠ u.ownBlock)
    (hb : Below w.heap.size w w') (hr : Rg 26 w' B v' (vs.take i ++ [u] ++ vs.drop i)) : LLv w' B v' (vs.take i ++ [u] ++ vs.drop i) (ls.take i ++ [l] ++ ls.drop i) := by
  have hll := h.len
  refine ⟨hr, by simp; omega, fun j z m hz hm => ?_, fun j k z y hjk hz hy => ?_⟩
  · rw [ins_get vs u i hil] at hz
    rw [ins_get ls l i (by omega)] at hm
    by_cases h1 : j < i
    · rw [if_pos h1] at hz hm; exact (h.at' j z m hz hm).keep hb
    · rw [if_neg h1] at hz hm
      by_cases h2 : j = i
      · rw [if_pos h2] at hz hm
        cases hz; cases hm
        exact hu.keep hb
      · rw [if_neg h2] at hz hm; exact (h.at' _ z m hz hm).keep hb
  · rw [ins_get vs u i hil] at hz hy
    by_cases h1 : k < i
    · rw [if_pos h1] at hy; rw [if_pos (by omega)] at hz; exact h.apart' (by omega) hz hy
    · rw [if_neg h1] at hy
      by_cases h2 : k = i
      · rw [if_pos h2] at hy
        rw [if_pos (by omega)] at hz
        cases hy
        exact ha _ z hz
      · rw [if_neg h2] at hy
        by_cases h3 : j < i
        · rw [if_pos h3] at hz; exact h.apart' (by omega) hz hy
        · rw [if_neg h3] at hz
          by_cases h4 : j = i
          · rw [if_pos h4] at hz
            cases hz
            exact apart_sym2 (ha _ y hy)
          · rw [if_neg h4] at hz; exact h.apart' (by omega) hz hy

/-- A store into a slice of numbers below leaves them alone. -/
theorem LLv.setR {w w' : World} {B C g : Nat} {v x : Value} {vs : List Value} {ls : List (List Nat)} {xs : List Int} (h : LLv w B v vs ls) (hx : Rd w C x xs) (hg : x.ownBlock = some g) (hgB : g < B) (hgr : w.grownBy w' (some g)) : LLv w' B v vs ls := by
  refine h.grown hgr ?_ fun i z hz => ?_
  · have := row_not_rd hx h.row
    rw [hg] at this
    exact this
  · obtain ⟨l, _, hr⟩ := h.rd hz
    cases hq : z.ownBlock with
    | none => exact .inl rfl
    | some q =>
      right
      intro e
      have h1 := (hr.lt q hq).1
      cases e
      omega

end Go.Proofs.Ytnniiobiedfmoaa

/- from XFL -/
namespace Go.Proofs.Ytnniiobiedfmoaa
open Go.RowKit
set_option linter.unusedVariables false
set_option linter.unusedSimpArgs false
set_option maxRecDepth 100000

def isZ : Option Value → Bool
  | some (.int _ q) => q == 0
  | _ => false

theorem lst_rep3 (n : Nat) : List.replicate n (0 : Int) = lst n (fun _ => 0) := by
  unfold lst
  apply List.ext_getElem?
  intro j
  by_cases hj : j < n
  · simp [hj]
  · rw [List.getElem?_eq_none (by simp; omega), List.getElem?_eq_none (by simp; omega)]

theorem lst_mark {n : Nat} (s : Nat → Nat) {y q : Nat} (hy : y < n) : (lst n s).set y ((q : Nat) : Int) = lst n (fun z => if z = y then q else s z) := by
  unfold lst
  apply List.ext_getElem?
  intro j
  by_cases hj : j < n
  · by_cases e : y = j
    · subst e; simp [List.getElem?_set, hy]
    · have e' : ¬ j = y := fun h => e h.symm
      simp [List.getElem?_set, hj, e, e']
  · rw [List.getElem?_eq_none (by simp; omega), List.getElem?_eq_none (by simp; omega)]

/-- Missing marks, counted in the memory. -/
theorem zs_mem {w : World} {B g k c n : Nat} {s : Nat → Nat} (h : Rd w B (.slice (some ⟨g, 0, none⟩) k c) (lst n s)) : cnt3 n (fun y => isZ (w.cell? ⟨g, y, none⟩)) = zs n s := by
  refine cnt_congr fun y hy => ?_
  rw [h.at.2.2.2.2.1 y (by rw [lst_len]; exact hy), lst_at]
  show (((s y : Nat) : Int) == 0) = (s y == 0)
  rw [Bool.eq_iff_iff, beq_iff_eq, beq_iff_eq]
  omega

theorem srcG_take {w : World} {e : TypeId} {B g n cap : Nat} {vs : List Value} (h : Rg e w B (.slice (some ⟨g, 0, none⟩) n cap) vs) (q c : Nat) (hq : q ≤ vs.length) : SrcG w (.slice (some ⟨g, 0, none⟩) q c) (vs.take q) := by
  refine .inr ⟨⟨g, 0, none⟩, c, by rw [List.length_take, Nat.min_eq_left hq], fun j hj => ?_⟩
  have hj' : j < q := by rw [List.length_take] at hj; omega
  rw [addr_addV, Nat.zero_add, h.at.2.2.2.2.2.1 j (by omega)]
  simp
theorem srcG_drop {w : World} {e : TypeId} {B g n cap : Nat} {vs : List Value} (h : Rg e w B (.slice (some ⟨g, 0, none⟩) n cap) vs) (q c o m : Nat) (hq : q ≤ vs.length) (ho : q < vs.length → o = q) (hm : m = vs.length - q) :
    SrcG w (.slice (some ⟨g, o, none⟩) m c) (vs.drop q) := by
  refine .inr ⟨⟨g, o, none⟩, c, by rw [List.length_drop, hm], fun j hj => ?_⟩
  have hj' : j < vs.length - q := by simpa using hj
  obtain rfl := ho (by omega)
  rw [addr_addV, h.at.2.2.2.2.2.1 (o + j) (by omega)]
  simp

set_option maxHeartbeats 4000000 in
theorem spec_cycles (b p : Nat) (w : World) (hb : 2 ≤ b) (hb' : b ≤ 10) (hp : 1 ≤ p) (hp' : p ≤ 4) :
    Calls Try.prog 28 #[.int .i64 (b : Int), .int .i64 (p : Int)] w fun e w' => ∃ u vs, e = .returned (.tuple #[u, .bool true]) ∧ LLv w' w.heap.size u vs (cycs (ps b p) (gs b p + 1)) ∧ Below w.heap.size w w' := by
  have hgs := gs_bd hb hb' hp hp'
  have a2 : decide (Pow (p : Int) 4) = true := decide_eq_true ⟨by omega, by omega⟩
  have m0 : (2 : Int) ≤ (b : Int) := by omega
  have m1 : (b : Int) ≤ 10 := by omega
  have HIN := Lib.hid (gs_into (p := p) hb (show b ≤ 16 by omega) hp (show p ≤ 8 by omega))
  have HGT := Lib.hid (show ∀ w' : World, Calls Try.prog 60 #[.int .i64 (b : Int), .int .i64 (p : Int)] w' fun e w'' => e = .returned (.int .i64 ((gs b p : Nat) : Int)) ∧ w' = w'' from fun w' => pwGreatest_any b p w' hb (by omega) hp (by omega))
  have HSM := Lib.hid (show ∀ (x : Nat) (w' : World), x ≤ 40000 → Calls Try.prog 62 #[.int .i64 (x : Int), .int .i64 (b : Int), .int .i64 (p : Int)] w' fun e w'' => e = .returned (.int .i64 ((ps b p x : Nat) : Int)) ∧ w' = w'' from fun x w' hx => pwSum_any x b p w' (by omega) hb (by omega) (by omega))
  have HRN := Lib.hid (show ∀ (x : Nat) (w' : World), x ≤ 40000 → cyc (ps b p) (gs b p + 1) x = true → Calls Try.prog 43 #[.int .i64 (x : Int), .int .i64 (b : Int), .int .i64 (p : Int)] w' fun e w'' => ∃ g c, e = .returned (.tuple #[.slice (some ⟨g, 0, none⟩) (per (ps b p) (gs b p + 1) x) c, .int .i64 0]) ∧
      Rd w'' w'.heap.size (.slice (some ⟨g, 0, none⟩) (per (ps b p) (gs b p + 1) x) c) (nts (rnd (ps b p) (gs b p + 1) x)) ∧ Below w'.heap.size w' w'' from fun x w' hx hc => by
    obtain ⟨e1, e2, e3⟩ := run_cyc (M := PM) HIN.out hc (it_ps hb (by omega) (by omega) (by omega))
    have := pwRun_any x b p w' (by omega) hb (by omega) hp (by omega)
    rw [e1, e2, e3] at this
    exact this)
  obtain ⟨m, hm⟩ : ∃ m, m = gs b p := ⟨_, rfl⟩
  obtain ⟨f, hf⟩ : ∃ f, f = ps b p := ⟨_, rfl⟩
  rw [← hm] at HGT HIN HRN hgs ⊢
  rw [← hf] at HSM HIN HRN ⊢
  obtain ⟨n, hn⟩ : ∃ n, n = m + 1 := ⟨_, rfl⟩
  have hni : (m : Int) + 1 = (n : Int) := by omega
  have hnb : n ≤ 40000 := by omega
  rw [← hn] at HIN HRN ⊢
  have HN := Lib.hid hn
  clear hm hf hgs hn hp hp' hb hb'
  go_enter Try.func28, Try.ntmps28
  go_wp2_with (first | (go_at_call 68; refine (l1In_yes _ _ _ _ m0 m1).mono ?_; rintro e w1 ⟨rfl, rfl⟩) | (go_at_call 42; refine (pwPower_any _ _ _).mono ?_; rintro e w1 ⟨rfl, rfl⟩) | (go_at_call 60; refine (HGT.out _).mono ?_; rintro e w1 ⟨rfl, rfl⟩) | (at_make; refine wpList_mkR rfl _ _ rfl .i64 .i64 _ _ n rfl rfl rfl rfl (by omega) ?_; intro w2 hr2 hg2 hb2; rw [lst_rep3] at hr2; have R2 := Lib.hid hr2; have B2 := Lib.hid hb2; have Z2 := Lib.hid (hr2.at.2.2.1); clear hr2 hg2 hb2))
  go_loopw [8, 9] (fun v i wr => ∃ (k : Nat) (s : Nat → Nat) (vs : List Value), k ≤ n ∧ i = .int .i64 (k : Int) ∧ Hid (Inv f n k s) ∧ LLv wr w2.heap.size v vs ((ld f n s).map (rnd f n)) ∧ Rd wr w.heap.size (.slice (some ⟨w.heap.size, 0, none⟩) n n) (lst n s) ∧ Below w.heap.size w wr ∧ w2.heap.size ≤ wr.heap.size) (fun _ i _ => n - (intOf i).toNat)
  case atStart => exact ⟨0, fun _ => 0, [], Nat.zero_le _, rfl, Lib.hid (inv_zero f n), by rw [ld_zero]; exact LLv.nil _ _, R2.out, B2.out, Nat.le_refl _⟩
  case round =>
    rename World => wa
    obtain ⟨k, s, vs, hk, rfl, HI, hv, hr, hbl, hz⟩ := hrel
    have HV := Lib.hid hv
    have HR := Lib.hid hr
    have HB := Lib.hid hbl
    have HZ := Lib.hid hz
    clear hv hr hbl hz
    by_cases hlt : k < n
    · have hkm : k ≤ m := by have := HN.out; omega
      go_wp2
      go_loopw [10] (fun x wq => ∃ j : Nat, x = .int .i64 ((it f j k : Nat) : Int) ∧ Hid (∀ i, i < j → s (it f i k) = 0) ∧ LLv wq w2.heap.size u8 vs ((ld f n s).map (rnd f n)) ∧ Rd wq w.heap.size (.slice (some ⟨w.heap.size, 0, none⟩) n n) (lst n (sJ f k j s)) ∧ Below w.heap.size w wq ∧ w2.heap.size ≤ wq.heap.size) (fun _ wq => cnt3 n (fun y => isZ (wq.cell? ⟨w.heap.size, y, none⟩)))
      case atStart => exact ⟨0, rfl, Lib.hid (fun i hi => by omega), HV.out, by rw [sJ_zero]; exact HR.out, HB.out, HZ.out⟩
      case round =>
        rename World => wq
        obtain ⟨j, rfl, H0, hv, hr, hbl, hz⟩ := hrel
        have HVj := Lib.hid hv
        have HRj := Lib.hid hr
        have HBj := Lib.hid hbl
        have HZj := Lib.hid hz
        clear hv hr hbl hz
        have hy := it_lt HIN.out j hlt
        obtain ⟨y, hyy⟩ : ∃ y, y = it f j k := ⟨_, rfl⟩
        have HY := Lib.hid hyy
        rw [← hyy] at hy ⊢
        clear hyy
        have hqb := bd_sJ (j := j) HI.out hy
        have hcell : wq.cell? ⟨w.heap.size, y, none⟩ = some (.int .i64 ((sJ f k j s y : Nat) : Int)) := by rw [HRj.out.at.2.2.2.2.1 y (by rw [lst_len]; exact hy), lst_at]
        have hfz := HRj.out.at.2.2.2.2.2 y
        obtain ⟨q, hqq⟩ : ∃ q, q = sJ f k j s y := ⟨_, rfl⟩
        have HQ := Lib.hid hqq
        rw [← hqq] at hcell hqb
        clear hqq
        by_cases hq0 : q = 0
        · have hsy : sJ f k j s y = 0 := by rw [← HQ.out]; exact hq0
          have HE := Lib.hid (sJ_step f k j s)
          have HS0 := Lib.hid (show ∀ i, i < j + 1 → s (it f i k) = 0 from fun i hi => by
            by_cases e : i = j
            · subst e
              rw [← HY.out]
              by_cases hm : ∃ i', i' < i ∧ it f i' k = y
              · rw [sJ_yes hm] at hsy; omega
              · rw [sJ_no hm] at hsy; exact hsy
            · exact H0.out i (by omega))
          have HZM := Lib.hid (zs_mem HRj.out)
          have HSY := Lib.hid hsy
          have hk1 : (k : Int) + 1 = ((k + 1 : Nat) : Int) := by omega
          have RS := Lib.hid (HRj.out.set y ((k : Int) + 1))
          have HRS := Lib.hid (show Rd (wq.setCell ⟨w.heap.size, y, none⟩ (.int .i64 ((k : Int) + 1))) w.heap.size (.slice (some ⟨w.heap.size, 0, none⟩) n n) (lst n (sJ f k (j + 1) s)) by
            rw [← HE.out, ← HY.out, ← lst_mark _ hy, ← hk1]; exact RS.out.1)
          have BS := Lib.hid (HBj.out.setCell (p := ⟨w.heap.size, y, none⟩) (Nat.le_refl _) (.int .i64 ((k : Int) + 1)))
          have VS := Lib.hid (HVj.out.setR HRj.out rfl Z2.out RS.out.2)
          have ZS := Lib.hid (Nat.le_trans HZj.out RS.out.2.size)
          have HMS := Lib.hid (show cnt3 n (fun z => isZ ((wq.setCell ⟨w.heap.size, y, none⟩ (.int .i64 ((k : Int) + 1))).cell? ⟨w.heap.size, z, none⟩)) < cnt3 n (fun z => isZ (wq.cell? ⟨w.heap.size, z, none⟩)) by
            rw [zs_mem HRS.out, HZM.out, ← HE.out, ← HY.out]
            have := zs_mark (q := k + 1) hy HSY.out (by omega)
            omega)
          have hyb : y ≤ 40000 := by omega
          subst hq0
          clear hsy hk1
          go_wp2_with (go_at_call 62; refine (HSM.out y _ hyb).mono ?_; rintro e w3 ⟨rfl, rfl⟩)
          go_roundw
          case rel => exact ⟨j + 1, by rw [HY.out]; rfl, HS0, VS.out, HRS.out, BS.out, ZS.out⟩
          case measure => exact HMS.out
        · have hz0 : ((q : Int) == 0) = false := beq_no (by omega)
          by_cases hqk : q = k + 1
          · have hz1 : ((q : Int) != (k : Int) + 1) = false := bne_no (by omega)
            have HNW := Lib.hid (inv_new HIN.out HI.out hlt H0.out (by rw [← HY.out, ← HQ.out]; exact hqk))
            rw [← HY.out] at HNW
            have HCY := Lib.hid HNW.out.1
            have HIV := Lib.hid HNW.out.2.1
            obtain ⟨m0, hm0, hl0, hmr, htn⟩ := turn_rnd HIN.out HCY.out
            obtain ⟨hsz, hput⟩ := HNW.out.2.2 m0 hl0 hmr
            obtain ⟨idx, hidx, hld, hlo, hhi⟩ := ld_put hm0 hl0 hsz hput
            have HPP := Lib.hid (per_spec HIN.out HCY.out)
            have HRY := Lib.hid (fun w' => HRN.out y w' (by omega) HCY.out)
            have HXL := Lib.hid (show (nts (rnd f n y)).length = per f n y by rw [nts_len, rnd_len])
            obtain ⟨P, hP⟩ : ∃ P, P = per f n y := ⟨_, rfl⟩
            obtain ⟨xs, hxs⟩ : ∃ xs, xs = nts (rnd f n y) := ⟨_, rfl⟩
            rw [← hP] at HPP HRY HXL
            rw [← hxs] at HRY HXL htn
            have hP1 := HPP.out.1
            have hP2 := HPP.out.2.1
            have HTN := Lib.hid htn
            have HTL := Lib.hid (show (nts (rnd f n m0)).length = P by rw [← htn, turn_len, HXL.out])
            have HLL := Lib.hid (ld_len f n s)
            obtain ⟨ls, hls⟩ : ∃ ls, ls = ld f n s := ⟨_, rfl⟩
            rw [← hls] at hidx hlo hhi hld HLL HVj
            have HLD := Lib.hid (show (ld f n (sJ f k j s)).map (rnd f n) = (ls.map (rnd f n)).take idx ++ [rnd f n m0] ++ (ls.map (rnd f n)).drop idx by rw [hld, List.map_append, List.map_append, List.map_take, List.map_drop]; rfl)
            have HLO := Lib.hid hlo
            have HHI := Lib.hid hhi
            have HVN := Lib.hid (show vs.length = ls.length by rw [HVj.out.len, List.length_map])
            clear hqk HNW hmr hsz hput hld hlo hhi htn hP hxs hls hq0
            go_wp2_with fail
            refine (HRY.out _).mono ?_
            rintro e w3 ⟨g, c, rfl, hr3, hb3⟩
            have hcap := hr3.at.2.2.2.1
            rw [HXL.out] at hcap
            have HC := Lib.hid (show CellsAt w3 g 0 xs by have := hr3.cellsAt 0; rw [List.drop_zero] at this; exact this)
            have HV3 := Lib.hid (HVj.out.keep hb3)
            have B3 := Lib.hid hb3
            have hc0 : ¬ c = 0 := by omega
            have hc1 : 0 < c := by omega
            clear hr3 hb3
            go_wp2_with fail
            refine (pwTurned_any g 0 P c xs _ HC.out HXL.out.symm (by omega) (by omega) (by omega)).mono ?_
            rintro e w4 ⟨u, rfl, hr4, hb4⟩
            rw [HTN.out] at hr4
            have HB4 := Lib.hid (Below.step B3.out B3.out.size hb4)
            have HV4 := Lib.hid (HVj.out.keep HB4.out)
            have HA4 := Lib.hid (fun (i : Nat) (z : Value) (hi : vs[i]? = some z) => let ⟨l, _, hz⟩ := HVj.out.rd hi; Rd.apart (fun q hq => Nat.lt_of_lt_of_le (hz.lt q hq).2 B3.out.size) hr4)
            have HU4 := Lib.hid (hr4.mono (Nat.le_trans HZj.out B3.out.size))
            obtain ⟨gu, cu, rfl⟩ : ∃ gu cu, u = .slice (some ⟨gu, 0, none⟩) P cu := by
              rcases hr4.cases with ⟨_, hx⟩ | ⟨gu, cu, hu, _⟩
              · have h2 := HTL.out; rw [hx] at h2; simp at h2; omega
              · rw [HTL.out] at hu; exact ⟨gu, cu, hu⟩
            have HZ4 := Lib.hid (Nat.le_trans HZj.out HB4.out.size)
            have HFIN := Lib.hid (show ∀ W1, Below w4.heap.size w4 W1 → Rd W1 w.heap.size (.slice (some ⟨w.heap.size, 0, none⟩) n n) (lst n (sJ f k j s)) ∧ Below w.heap.size w W1 ∧ w2.heap.size ≤ W1.heap.size from fun W1 h =>
              ⟨(HRj.out.keep HB4.out).keep h, Below.step (Below.step HBj.out HBj.out.size HB4.out) (Nat.le_trans HBj.out.size HB4.out.size) h, Nat.le_trans HZ4.out h.size⟩)
            have HFV := Lib.hid (show ∀ W1, Below w4.heap.size w4 W1 → LLv W1 w2.heap.size u8 vs (ls.map (rnd f n)) from fun W1 h => HV4.out.keep h)
            have HUC := Lib.hid (show ∀ W1, Below w4.heap.size w4 W1 → W1.cell? ⟨gu, 0, none⟩ = some (.int .i64 (m0 : Int)) from fun W1 h => by
              have h2 := (HU4.out.keep h).at.2.2.2.2.1 0 (by rw [HTL.out]; omega)
              rw [h2]
              have h3 : (nts (rnd f n m0))[0]? = some ((it f 0 m0 : Nat) : Int) := nts_rnd_get (by have := HTL.out; rw [nts_len, rnd_len] at this; omega)
              obtain ⟨_, h4⟩ := List.getElem?_eq_some_iff.1 h3
              rw [h4]; rfl)
            have HONE := Lib.hid (show ∀ q ∈ vs, q.oneCell' = true from fun q hq => by
              obtain ⟨i, hi⟩ := List.getElem?_of_mem hq
              obtain ⟨l, _, hz⟩ := HVj.out.rd hi
              rcases hz.cases with ⟨rfl, _⟩ | ⟨g', c', rfl, _⟩ <;> rfl)
            have HLB := Lib.hid (show vs.length ≤ 40000 by have := HLL.out; rw [HVN.out]; omega)
            have HIL := Lib.hid (show idx ≤ vs.length by rw [HVN.out]; exact hidx)
            clear hr4 hb4
            rcases HVj.out.row.cases with ⟨h8, hvs⟩ | ⟨gv, cv, h8⟩
            · subst h8
              subst hvs
              have hidx0 : idx = 0 := by have := HIL.out; simp at this; exact this
              subst hidx0
              go_wp2
              refine wp_loop_rounds 1 ?_
              rw [rounds_succ]
              go_wp2_with fail
              go_quiet (fail)
              rename_i nq
              go_wp2_with (first | (at_builtin; refine wpList_appGS rfl (.tmp 86) (.tmp 89) 38 26 (.slice none 0 0) 24 Try.underlying38 infoL (by omega) rfl rfl (w4.drewN nq).heap.size _ _ [] [] rfl rfl (rg_empty _ _) (.inl ⟨rfl, rfl⟩) (fun q hq => HONE.out q (by first | exact List.mem_of_mem_take hq | (simp at hq))) (by have := HLB.out; simp <;> omega) (by simp) ?_; intro v1 w5 hr5 hg5 hb5; have R5 := Lib.hid hr5; have B5 := Lib.hid ((Below.alloc (below_drewN' (Below.refl w4.heap.size w4) nq) (below_drewN' (Below.refl w4.heap.size w4) nq).size _).trans (hb5.mono (below_drewN' (Below.refl w4.heap.size w4) nq).size)); have Z5 := Lib.hid (show (w4.drewN nq).heap.size ≤ w5.heap.size from Nat.le_trans (by simp) hb5.size); clear hr5 hg5 hb5) | (at_builtin; refine wpList_appG rfl (.tmp 90) (.tmp 92) _ 26 (.slice none 0 0) 24 Try.underlying38 infoL (by omega) rfl rfl (w4.drewN nq).heap.size (w4.drewN nq).heap.size _ _ ([] ++ []) [.slice (some ⟨gu, 0, none⟩) P cu] rfl rfl (R5.out.alloc _) (Rg.lit _ _ _ _ Z5.out) (by simp [Value.oneCell']) (by have := HLB.out; simp <;> omega) (Nat.le_trans Z5.out (by simp)) ?_; intro v2 w6 hr6 hg6 hb6; have R6 := Lib.hid hr6; have B6 := Lib.hid ((B5.out.alloc B5.out.size _).trans (hb6.mono (below_drewN' (Below.refl w4.heap.size w4) nq).size)); have Z6 := Lib.hid (show (w4.drewN nq).heap.size ≤ w6.heap.size from Nat.le_trans Z5.out (Nat.le_trans (by simp) hb6.size)); clear hr6 hg6 hb6) | (at_builtin; refine wpList_appGS rfl (.tmp 94) (.tmp 97) 38 26 (.slice none 0 0) 24 Try.underlying38 infoL (by omega) rfl rfl (w4.drewN nq).heap.size _ _ _ [] rfl rfl R6.out (.inl ⟨rfl, rfl⟩) (fun q hq => HONE.out q (by first | exact List.mem_of_mem_drop hq | (simp at hq))) (by have := HLB.out; simp <;> omega) Z6.out ?_; intro v3 w7 hr7 hg7 hb7; have R7 := Lib.hid hr7; have B7 := Lib.hid (B6.out.trans (hb7.mono (below_drewN' (Below.refl w4.heap.size w4) nq).size)); clear hr7 hg7 hb7))
              have HIN7 := Lib.hid (LLv.ins (v' := v3) (i := 0) HV4.out (Nat.zero_le _) HU4.out HA4.out B7.out (R7.out.mono (Nat.le_trans HZ4.out (below_drewN' (Below.refl w4.heap.size w4) nq).size)))
              have HF7 := Lib.hid (HFIN.out _ B7.out)
              go_roundw
              case rel => exact ⟨k + 1, _, ([] ++ [.slice (some ⟨gu, 0, none⟩) P cu] ++ []), by omega, by go_num, HIV, by rw [HLD.out]; exact HIN7.out, HF7.out.1, HF7.out.2.1, HF7.out.2.2⟩
              case measure => simp [intOf]; omega
            · subst h8
              obtain ⟨N, hN⟩ : ∃ N, N = vs.length := ⟨_, rfl⟩
              rw [← hN] at HFV HV4 HVj ⊢
              have hidN : idx ≤ N := by rw [hN]; exact HIL.out
              have hNc : N ≤ cv := by have := HVj.out.row.at.2.2.2.1; rw [← hN] at this; exact this
              have hNb : N ≤ 40000 := by rw [hN]; exact HLB.out
              have HNL := Lib.hid hN
              clear hN
              go_wp2
              go_loopw [14] (fun i wt => ∃ t : Nat, t ≤ idx ∧ i = .int .i64 (t : Int) ∧ Below w4.heap.size w4 wt) (fun i _ => idx - (intOf i).toNat)
              case atStart => exact ⟨0, Nat.zero_le _, rfl, Below.refl _ _⟩
              case round =>
                rename World => wt
                obtain ⟨t, ht, rfl, hbt⟩ := hrel
                have HBt := Lib.hid hbt
                have hcu := HUC.out _ hbt
                have HVt := Lib.hid (HFV.out _ hbt)
                clear hbt
                by_cases htN : t < N
                · obtain ⟨z, hz⟩ : ∃ z, vs[t]? = some z := ⟨vs[t]'(by rw [← HNL.out]; exact htN), by simp⟩
                  have hcz : wt.cell? ⟨gv, t, none⟩ = some z := by
                    obtain ⟨i1, i2⟩ := List.getElem?_eq_some_iff.1 hz
                    rw [HVt.out.row.at.2.2.2.2.2.1 t i1, i2]
                  obtain ⟨l, hl, hrz⟩ := HVt.out.rd hz
                  have htl : t < ls.length := by rw [← HVN.out, ← HNL.out]; exact htN
                  have hlt2 : l = rnd f n (ls[t]) := by
                    rw [List.getElem?_map, List.getElem?_eq_getElem htl] at hl
                    simpa using hl.symm
                  obtain ⟨m1', hm1⟩ : ∃ m1', m1' = ls[t] := ⟨_, rfl⟩
                  have HLT := Lib.hid (show t < idx → m1' < m0 from fun h => by rw [hm1]; exact HLO.out t htl h)
                  have HGT2 := Lib.hid (show t = idx → m0 < m1' from fun h => by subst h; rw [hm1]; exact HHI.out htl)
                  rw [hlt2, ← hm1] at hrz
                  have hpp : 0 < per f n m1' := by unfold per; omega
                  obtain ⟨gz, pz, cz, hze⟩ : ∃ gz pz cz, z = .slice (some ⟨gz, 0, none⟩) pz cz ∧ 0 < pz := by
                    rcases hrz.cases with ⟨_, hx⟩ | ⟨gz, cz, hu, _⟩
                    · have := congrArg List.length hx; rw [nts_len, rnd_len] at this; simp at this; omega
                    · exact ⟨gz, _, cz, hu, by rw [nts_len, rnd_len]; exact hpp⟩
                  obtain ⟨rfl, hpz⟩ := hze
                  have hch : wt.cell? ⟨gz, 0, none⟩ = some (.int .i64 (m1' : Int)) := by
                    have h2 := hrz.at.2.2.2.2.1 0 (by rw [nts_len, rnd_len]; exact hpp)
                    rw [h2]
                    have h3 : (nts (rnd f n m1'))[0]? = some ((it f 0 m1' : Nat) : Int) := nts_rnd_get hpp
                    obtain ⟨_, h4⟩ := List.getElem?_eq_some_iff.1 h3
                    rw [h4]; rfl
                  clear hz hl hlt2 hm1 hrz
                  by_cases hti : t < idx
                  · have hmm : m1' < m0 := HLT.out hti
                    go_wp2
                    go_quiet (fail)
                    rename_i nq
                    go_wp2
                    go_roundw
                    case rel => exact ⟨t + 1, by omega, by go_num, below_drewN' HBt.out _⟩
                    case measure => simp [intOf]; omega
                  · obtain rfl : t = idx := by omega
                    have hmm : ¬ m1' < m0 := by have := HGT2.out rfl; omega
                    have hqc : ¬ cv = t := by omega
                    have hqc2 : t < cv := by omega
                    have hqc3 : t ≤ cv := by omega
                    go_wp2
                    go_quiet (fail)
                    rename_i nq
                    go_wp2_with (first | (at_builtin; refine wpList_appGS rfl (.tmp 86) (.tmp 89) 38 26 (.slice none 0 0) 24 Try.underlying38 infoL (by omega) rfl rfl (wt.drewN nq).heap.size _ _ [] (vs.take t) rfl rfl (rg_empty _ _) (srcG_take ((HFV.out _ (Below.alloc (below_drewN' HBt.out nq) (below_drewN' HBt.out nq).size _)).row) t _ HIL.out) (fun q hq => HONE.out q (by first | exact List.mem_of_mem_take hq | (simp at hq))) (by have := HLB.out; simp <;> omega) (by simp) ?_; intro v1 w5 hr5 hg5 hb5; have R5 := Lib.hid hr5; have B5 := Lib.hid ((Below.alloc (below_drewN' HBt.out nq) (below_drewN' HBt.out nq).size _).trans (hb5.mono (below_drewN' HBt.out nq).size)); have Z5 := Lib.hid (show (wt.drewN nq).heap.size ≤ w5.heap.size from Nat.le_trans (by simp) hb5.size); clear hr5 hg5 hb5) | (at_builtin; refine wpList_appG rfl (.tmp 90) (.tmp 92) _ 26 (.slice none 0 0) 24 Try.underlying38 infoL (by omega) rfl rfl (wt.drewN nq).heap.size (wt.drewN nq).heap.size _ _ ([] ++ vs.take t) [.slice (some ⟨gu, 0, none⟩) P cu] rfl rfl (R5.out.alloc _) (Rg.lit _ _ _ _ Z5.out) (by simp [Value.oneCell']) (by have := HLB.out; simp <;> omega) (Nat.le_trans Z5.out (by simp)) ?_; intro v2 w6 hr6 hg6 hb6; have R6 := Lib.hid hr6; have B6 := Lib.hid ((B5.out.alloc B5.out.size _).trans (hb6.mono (below_drewN' HBt.out nq).size)); have Z6 := Lib.hid (show (wt.drewN nq).heap.size ≤ w6.heap.size from Nat.le_trans Z5.out (Nat.le_trans (by simp) hb6.size)); clear hr6 hg6 hb6) | (at_builtin; refine wpList_appGS rfl (.tmp 94) (.tmp 97) 38 26 (.slice none 0 0) 24 Try.underlying38 infoL (by omega) rfl rfl (wt.drewN nq).heap.size _ _ _ (vs.drop t) rfl rfl R6.out (srcG_drop ((HFV.out _ B6.out).row) t _ _ _ HIL.out (fun h => by have h9 := HNL.out; first | rfl | omega) (by have := HNL.out; omega)) (fun q hq => HONE.out q (by first | exact List.mem_of_mem_drop hq | (simp at hq))) (by have := HLB.out; simp <;> omega) Z6.out ?_; intro v3 w7 hr7 hg7 hb7; have R7 := Lib.hid hr7; have B7 := Lib.hid (B6.out.trans (hb7.mono (below_drewN' HBt.out nq).size)); clear hr7 hg7 hb7))
                    have HIN7 := Lib.hid (LLv.ins (v' := v3) HV4.out HIL.out HU4.out HA4.out B7.out (R7.out.mono (Nat.le_trans HZ4.out (below_drewN' HBt.out nq).size)))
                    have HF7 := Lib.hid (HFIN.out _ B7.out)
                    go_roundw
                    case rel => exact ⟨k + 1, _, (vs.take t ++ [.slice (some ⟨gu, 0, none⟩) P cu] ++ vs.drop t), by omega, by go_num, HIV, by rw [HLD.out]; exact HIN7.out, HF7.out.1, HF7.out.2.1, HF7.out.2.2⟩
                    case measure => simp [intOf]; omega
                · obtain rfl : t = idx := by omega
                  obtain rfl : t = N := by omega
                  have hfd : decide (t < t) = false := decide_eq_false (by omega)
                  go_wp2
                  go_quiet (fail)
                  rename_i nq
                  by_cases hcl : t < cv
                  · have hce : ¬ cv = t := by omega
                    go_wp2_with (first | (at_builtin; refine wpList_appGS rfl (.tmp 86) (.tmp 89) 38 26 (.slice none 0 0) 24 Try.underlying38 infoL (by omega) rfl rfl (wt.drewN nq).heap.size _ _ [] (vs.take t) rfl rfl (rg_empty _ _) (srcG_take ((HFV.out _ (Below.alloc (below_drewN' HBt.out nq) (below_drewN' HBt.out nq).size _)).row) t _ HIL.out) (fun q hq => HONE.out q (by first | exact List.mem_of_mem_take hq | (simp at hq))) (by have := HLB.out; simp <;> omega) (by simp) ?_; intro v1 w5 hr5 hg5 hb5; have R5 := Lib.hid hr5; have B5 := Lib.hid ((Below.alloc (below_drewN' HBt.out nq) (below_drewN' HBt.out nq).size _).trans (hb5.mono (below_drewN' HBt.out nq).size)); have Z5 := Lib.hid (show (wt.drewN nq).heap.size ≤ w5.heap.size from Nat.le_trans (by simp) hb5.size); clear hr5 hg5 hb5) | (at_builtin; refine wpList_appG rfl (.tmp 90) (.tmp 92) _ 26 (.slice none 0 0) 24 Try.underlying38 infoL (by omega) rfl rfl (wt.drewN nq).heap.size (wt.drewN nq).heap.size _ _ ([] ++ vs.take t) [.slice (some ⟨gu, 0, none⟩) P cu] rfl rfl (R5.out.alloc _) (Rg.lit _ _ _ _ Z5.out) (by simp [Value.oneCell']) (by have := HLB.out; simp <;> omega) (Nat.le_trans Z5.out (by simp)) ?_; intro v2 w6 hr6 hg6 hb6; have R6 := Lib.hid hr6; have B6 := Lib.hid ((B5.out.alloc B5.out.size _).trans (hb6.mono (below_drewN' HBt.out nq).size)); have Z6 := Lib.hid (show (wt.drewN nq).heap.size ≤ w6.heap.size from Nat.le_trans Z5.out (Nat.le_trans (by simp) hb6.size)); clear hr6 hg6 hb6) | (at_builtin; refine wpList_appGS rfl (.tmp 94) (.tmp 97) 38 26 (.slice none 0 0) 24 Try.underlying38 infoL (by omega) rfl rfl (wt.drewN nq).heap.size _ _ _ (vs.drop t) rfl rfl R6.out (srcG_drop ((HFV.out _ B6.out).row) t _ _ _ HIL.out (fun h => by have h9 := HNL.out; first | rfl | omega) (by have := HNL.out; omega)) (fun q hq => HONE.out q (by first | exact List.mem_of_mem_drop hq | (simp at hq))) (by have := HLB.out; simp <;> omega) Z6.out ?_; intro v3 w7 hr7 hg7 hb7; have R7 := Lib.hid hr7; have B7 := Lib.hid (B6.out.trans (hb7.mono (below_drewN' HBt.out nq).size)); clear hr7 hg7 hb7))
                    have HIN7 := Lib.hid (LLv.ins (v' := v3) HV4.out HIL.out HU4.out HA4.out B7.out (R7.out.mono (Nat.le_trans HZ4.out (below_drewN' HBt.out nq).size)))
                    have HF7 := Lib.hid (HFIN.out _ B7.out)
                    go_roundw
                    case rel => exact ⟨k + 1, _, (vs.take t ++ [.slice (some ⟨gu, 0, none⟩) P cu] ++ vs.drop t), by omega, by go_num, HIV, by rw [HLD.out]; exact HIN7.out, HF7.out.1, HF7.out.2.1, HF7.out.2.2⟩
                    case measure => simp [intOf]; omega
                  · obtain rfl : cv = t := by omega
                    go_wp2_with (first | (at_builtin; refine wpList_appGS rfl (.tmp 86) (.tmp 89) 38 26 (.slice none 0 0) 24 Try.underlying38 infoL (by omega) rfl rfl (wt.drewN nq).heap.size _ _ [] (vs.take cv) rfl rfl (rg_empty _ _) (srcG_take ((HFV.out _ (Below.alloc (below_drewN' HBt.out nq) (below_drewN' HBt.out nq).size _)).row) cv _ HIL.out) (fun q hq => HONE.out q (by first | exact List.mem_of_mem_take hq | (simp at hq))) (by have := HLB.out; simp <;> omega) (by simp) ?_; intro v1 w5 hr5 hg5 hb5; have R5 := Lib.hid hr5; have B5 := Lib.hid ((Below.alloc (below_drewN' HBt.out nq) (below_drewN' HBt.out nq).size _).trans (hb5.mono (below_drewN' HBt.out nq).size)); have Z5 := Lib.hid (show (wt.drewN nq).heap.size ≤ w5.heap.size from Nat.le_trans (by simp) hb5.size); clear hr5 hg5 hb5) | (at_builtin; refine wpList_appG rfl (.tmp 90) (.tmp 92) _ 26 (.slice none 0 0) 24 Try.underlying38 infoL (by omega) rfl rfl (wt.drewN nq).heap.size (wt.drewN nq).heap.size _ _ ([] ++ vs.take cv) [.slice (some ⟨gu, 0, none⟩) P cu] rfl rfl (R5.out.alloc _) (Rg.lit _ _ _ _ Z5.out) (by simp [Value.oneCell']) (by have := HLB.out; simp <;> omega) (Nat.le_trans Z5.out (by simp)) ?_; intro v2 w6 hr6 hg6 hb6; have R6 := Lib.hid hr6; have B6 := Lib.hid ((B5.out.alloc B5.out.size _).trans (hb6.mono (below_drewN' HBt.out nq).size)); have Z6 := Lib.hid (show (wt.drewN nq).heap.size ≤ w6.heap.size from Nat.le_trans Z5.out (Nat.le_trans (by simp) hb6.size)); clear hr6 hg6 hb6) | (at_builtin; refine wpList_appGS rfl (.tmp 94) (.tmp 97) 38 26 (.slice none 0 0) 24 Try.underlying38 infoL (by omega) rfl rfl (wt.drewN nq).heap.size _ _ _ (vs.drop cv) rfl rfl R6.out (srcG_drop ((HFV.out _ B6.out).row) cv _ _ _ HIL.out (fun h => by have h9 := HNL.out; first | rfl | omega) (by have := HNL.out; omega)) (fun q hq => HONE.out q (by first | exact List.mem_of_mem_drop hq | (simp at hq))) (by have := HLB.out; simp <;> omega) Z6.out ?_; intro v3 w7 hr7 hg7 hb7; have R7 := Lib.hid hr7; have B7 := Lib.hid (B6.out.trans (hb7.mono (below_drewN' HBt.out nq).size)); clear hr7 hg7 hb7))
                    have HIN7 := Lib.hid (LLv.ins (v' := v3) HV4.out HIL.out HU4.out HA4.out B7.out (R7.out.mono (Nat.le_trans HZ4.out (below_drewN' HBt.out nq).size)))
                    have HF7 := Lib.hid (HFIN.out _ B7.out)
                    go_roundw
                    case rel => exact ⟨k + 1, _, (vs.take cv ++ [.slice (some ⟨gu, 0, none⟩) P cu] ++ vs.drop cv), by omega, by go_num, HIV, by rw [HLD.out]; exact HIN7.out, HF7.out.1, HF7.out.2.1, HF7.out.2.2⟩
                    case measure => simp [intOf]; omega
          · have hz1 : ((q : Int) != (k : Int) + 1) = true := by simp; omega
            have HO := Lib.hid (inv_old HIN.out HI.out hlt H0.out (by rw [← HY.out, ← HQ.out]; exact hq0) (by rw [← HY.out, ← HQ.out]; exact hqk))
            have HL := Lib.hid (ld_congr HO.out.2)
            have HIV := Lib.hid HO.out.1
            clear hq0 hqk
            go_wp2
            go_roundw
            case rel => exact ⟨k + 1, _, vs, by omega, by go_num, HIV, by rw [HL.out]; exact HVj.out, HRj.out, HBj.out, HZj.out⟩
            case measure => simp [intOf]; omega
    · obtain rfl : k = n := by omega
      have hkm : ¬ k ≤ m := by have := HN.out; omega
      have HE := Lib.hid (ld_all HI.out)
      have HVE := Lib.hid (show LLv wa w2.heap.size u8 vs (cycs f k) by rw [← HE.out]; exact HV.out)
      go_wp2
      go_ret2
      exact ⟨_, vs, rfl, HVE.out.mono (Nat.le_of_lt Z2.out), HB.out⟩

end Go.Proofs.Ytnniiobiedfmoaa

/- from XFM -/
namespace Go.Proofs.Ytnniiobiedfmoaa
open Go.RowKit
set_option linter.unusedVariables false
set_option linter.unusedSimpArgs false
set_option maxRecDepth 100000

theorem spec_CyclesOfPowers (b p : Int) (w : World) :
    Calls Try.prog 28 #[.int .i64 b, .int .i64 p] w fun e w' => ∃ u vs, e = .returned (.tuple #[u, .bool (OKC b p)]) ∧ LLv w' w.heap.size u vs (LF_CyclesOfPowers b p) ∧ Below w.heap.size w w' := by
  rcases okc_cases b p with ⟨hok, B, P, rfl, rfl, h1, h2, h3, h4⟩ | hn
  · have HL : LF_CyclesOfPowers (B : Int) (P : Int) = cycs (ps B P) (gs B P + 1) := by unfold LF_CyclesOfPowers; rw [if_pos hok]; rfl
    refine (spec_cycles B P w h1 h2 h3 h4).mono ?_
    rintro e w' ⟨u, vs, rfl, hv, hb⟩
    exact ⟨u, vs, by rw [hok], by rw [HL]; exact hv, hb⟩
  · have HO := Lib.hid hn
    have HL := Lib.hid (show LF_CyclesOfPowers b p = [] by unfold LF_CyclesOfPowers; rw [hn]; rfl)
    have hnot := of_decide_eq_false hn
    by_cases hb : 2 ≤ b ∧ b ≤ 10
    · obtain ⟨m0, m1⟩ := hb
      have a2 : decide (Pow p 4) = false := decide_eq_false (fun h => hnot ⟨⟨m0, m1⟩, h⟩)
      clear hn hnot
      go_enter Try.func28, Try.ntmps28
      go_wp2_with (first | (go_at_call 68; refine (l1In_yes _ _ _ _ m0 m1).mono ?_; rintro e w1 ⟨rfl, rfl⟩) | (go_at_call 42; refine (pwPower_any _ _ _).mono ?_; rintro e w1 ⟨rfl, rfl⟩))
      go_ret2
      exact ⟨_, [], by rw [HO.out]; rfl, by rw [HL.out]; exact LLv.nil _ _, Below.refl _ _⟩
    · have H := Lib.hid (show b < 2 ∨ 10 < b by omega)
      clear hn hnot hb
      go_enter Try.func28, Try.ntmps28
      go_wp2_with (go_at_call 68; refine (l1In_no _ _ _ _ H.out).mono ?_; rintro e w1 ⟨rfl, rfl⟩)
      go_ret2
      exact ⟨_, [], by rw [HO.out]; rfl, by rw [HL.out]; exact LLv.nil _ _, Below.refl _ _⟩

end Go.Proofs.Ytnniiobiedfmoaa
