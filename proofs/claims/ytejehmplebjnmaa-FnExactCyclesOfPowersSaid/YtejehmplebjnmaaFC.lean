/-
  The program: images of a map as sets, until they stay the same.
-/
import Derived.Test.YtejehmplebjnmaaFB
import Derived.Test.YtejehmplebjnmaaUJ
import Derived.Test.YtejehmplebjnmaaUE
namespace Go.Proofs.Ytejehmplebjnmaa
open Go.RowKit
set_option linter.unusedVariables false
set_option linter.unusedSimpArgs false
set_option maxRecDepth 100000


def lenOf : Value → Nat
  | .slice _ n _ => n
  | _ => 0

theorem lenOf_rd {w : World} {B : Nat} {v : Value} {xs : List Int} (h : Rd w B v xs) : lenOf v = xs.length := by
  rcases h.cases with ⟨rfl, rfl⟩ | ⟨g, cap, rfl, _⟩ <;> rfl


/-- A map of up to 40000 numbers that lies in a block of its own from place 0 on. -/
structure Mg (w : World) (g n : Nat) (f : Nat → Nat) : Prop where
  lt : g < w.heap.size
  cell : ∀ j, j < n → w.cell? ⟨g, j, none⟩ = some (.int .i64 ((f j : Nat) : Int))
  into : Into f n
  n0 : 1 ≤ n
  n1 : n ≤ 40000

theorem Mg.keep {w w' : World} {g n : Nat} {f : Nat → Nat} (h : Mg w g n f) (hb : Below w.heap.size w w') : Mg w' g n f :=
  ⟨Nat.lt_of_lt_of_le h.lt hb.size, fun j hj => (hb.cell (p := ⟨g, j, none⟩) h.lt).trans (h.cell j hj), h.into, h.n0, h.n1⟩
theorem Mg.keepB {w w' : World} {C g n : Nat} {f : Nat → Nat} (h : Mg w g n f) (hb : Below C w w') (hg : g < C) (hs : w.heap.size ≤ w'.heap.size) : Mg w' g n f :=
  ⟨Nat.lt_of_lt_of_le h.lt hs, fun j hj => (hb.cell (p := ⟨g, j, none⟩) hg).trans (h.cell j hj), h.into, h.n0, h.n1⟩
theorem Mg.drew {w : World} {g n : Nat} {f : Nat → Nat} (h : Mg w g n f) : Mg w.drew g n f := ⟨h.lt, h.cell, h.into, h.n0, h.n1⟩

/-- The numbers to which k steps lead. -/
def img (f : Nat → Nat) (n k y : Nat) : Bool := (List.range n).any fun x => it f k x == y
theorem img_iff {f : Nat → Nat} {n k y : Nat} : img f n k y = true ↔ ∃ x, x < n ∧ it f k x = y := by simp [img]
theorem img_cyc (f : Nat → Nat) (n : Nat) : img f n n = cyc f n := rfl
theorem img_zero {f : Nat → Nat} {n y : Nat} (h : y < n) : img f n 0 y = true := img_iff.2 ⟨y, h, rfl⟩
theorem img_lt {f : Nat → Nat} {n k y : Nat} (h : Into f n) (hi : img f n k y = true) : y < n := by
  obtain ⟨x, hx, rfl⟩ := img_iff.1 hi
  exact it_lt h k hx
theorem img_succ {f : Nat → Nat} {n k y : Nat} (h : Into f n) : img f n (k + 1) y = true ↔ ∃ z, img f n k z = true ∧ f z = y := by
  rw [img_iff]
  constructor
  · rintro ⟨x, hx, rfl⟩
    exact ⟨it f k x, img_iff.2 ⟨x, hx, rfl⟩, rfl⟩
  · rintro ⟨z, hz, rfl⟩
    obtain ⟨x, hx, rfl⟩ := img_iff.1 hz
    exact ⟨x, hx, rfl⟩
theorem img_down {f : Nat → Nat} {n k y : Nat} (h : Into f n) (hi : img f n (k + 1) y = true) : img f n k y = true := by
  obtain ⟨x, hx, rfl⟩ := img_iff.1 hi
  rw [it_in]
  exact img_iff.2 ⟨f x, h x hx, rfl⟩

theorem cnt_mono {n : Nat} {s t : Nat → Bool} (h : ∀ x, x < n → s x = true → t x = true) : cnt n s ≤ cnt n t := by
  induction n with
  | zero => simp [cnt]
  | succ n ih =>
    rw [cnt_succ, cnt_succ]
    have h1 := ih fun x hx => h x (by omega)
    by_cases hs : s n = true
    · rw [if_pos hs, if_pos (h n (by omega) hs)]; omega
    · rw [if_neg hs]; omega

theorem cnt_eq {n : Nat} {s t : Nat → Bool} (h : ∀ x, x < n → s x = true → t x = true) (he : cnt n s = cnt n t) : ∀ x, x < n → s x = t x := by
  induction n with
  | zero => intro x hx; omega
  | succ n ih =>
    rw [cnt_succ, cnt_succ] at he
    have h1 := cnt_mono (n := n) fun x hx => h x (by omega)
    intro x hx
    by_cases hs : s n = true
    · have ht := h n (by omega) hs
      rw [if_pos hs, if_pos ht] at he
      by_cases e : x = n
      · subst e; rw [hs, ht]
      · exact ih (fun x hx => h x (by omega)) (by omega) x (by omega)
    · by_cases ht : t n = true
      · rw [if_neg hs, if_pos ht] at he; omega
      · rw [if_neg hs, if_neg ht] at he
        by_cases e : x = n
        · subst e; simp only [Bool.not_eq_true] at hs ht; rw [hs, ht]
        · exact ih (fun x hx => h x (by omega)) (by omega) x (by omega)

theorem cnt_pos {n : Nat} {s : Nat → Bool} {x : Nat} (hx : x < n) (h : s x = true) : 1 ≤ cnt n s := by
  have h1 : x ∈ (List.range n).filter s := List.mem_filter.2 ⟨List.mem_range.2 hx, h⟩
  exact List.length_pos_of_mem h1

/-- When the images stay as many, they are the numbers on cycles, there and from there on. -/
theorem img_stop {f : Nat → Nat} {n k : Nat} (h : Into f n) (he : cnt n (img f n (k + 1)) = cnt n (img f n k)) : ∀ y, y < n → img f n k y = cyc f n y := by
  have h1 := cnt_eq (fun x _ => img_down h) he
  have h2 : ∀ j y, y < n → img f n (k + j) y = img f n k y := by
    intro j
    induction j with
    | zero => intro y _; rfl
    | succ j ih =>
      intro y hy
      rw [← h1 y hy, Bool.eq_iff_iff, show k + (j + 1) = (k + j) + 1 from rfl, img_succ h, img_succ h]
      constructor
      · rintro ⟨z, hz, e⟩; exact ⟨z, by rw [← ih z (img_lt h hz)]; exact hz, e⟩
      · rintro ⟨z, hz, e⟩; exact ⟨z, by rw [ih z (img_lt h hz)]; exact hz, e⟩
  intro y hy
  rw [← h2 n y hy, Bool.eq_iff_iff, img_iff]
  constructor
  · rintro ⟨x, hx, rfl⟩
    exact cyc_late h hx (by omega)
  · intro hc
    obtain ⟨p, p1, p2, p3⟩ := cyc_per h hc
    refine ⟨it f ((k + n) * p - (k + n)) y, it_lt h _ hy, ?_⟩
    have hle : k + n ≤ (k + n) * p := Nat.le_mul_of_pos_right _ p1
    rw [← it_add, show (k + n) + ((k + n) * p - (k + n)) = (k + n) * p from by omega]
    exact it_mul p3 _

/-- As long as they don't, they get fewer. -/
theorem img_fall {f : Nat → Nat} {n : Nat} (h : Into f n) : ∀ k, (∀ j, j < k → cnt n (img f n (j + 1)) ≠ cnt n (img f n j)) → cnt n (img f n k) + k ≤ n
  | 0, _ => by have := cnt_le n (img f n 0); omega
  | k + 1, hk => by
    have h1 := img_fall h k fun j hj => hk j (by omega)
    have h2 := hk k (by omega)
    have h3 := cnt_mono (n := n) (s := img f n (k + 1)) (t := img f n k) fun x _ => img_down (k := k) h
    omega

theorem img_bound {f : Nat → Nat} {n k : Nat} (h : Into f n) (h0 : 1 ≤ n) (hk : ∀ j, j < k → cnt n (img f n (j + 1)) ≠ cnt n (img f n j)) : k + 1 ≤ n := by
  have h1 := img_fall h k hk
  have h2 : 1 ≤ cnt n (img f n k) := cnt_pos (it_lt h k (show 0 < n by omega)) (img_iff.2 ⟨0, by omega, rfl⟩)
  omega

theorem below_adj (k : Nat) : adj (fun y => decide (y < k)) k true = fun y => decide (y < k + 1) := by
  funext y
  unfold adj
  by_cases e : y = k
  · subst e; simp
  · rw [if_neg e, decide_eq_decide]; omega

theorem numbers_any (g n cap : Nat) (f : Nat → Nat) (w : World) (h : Mg w g n f) :
    Calls Try.prog 111 #[.slice (some ⟨g, 0, none⟩) n cap] w fun e w' => ∃ b, e = .returned (.map (some b)) ∧ w.heap.size ≤ b ∧ St w' n b (img f n 0) ∧ Below w.heap.size w w' := by
  have H := Lib.hid h
  have h0 := h.n0
  have h1 := h.n1
  have hmm := @run_makeMap Try.prog
  clear h
  go_enter Try.func111, Try.ntmps111
  go_wp2
  go_loopw [8] (fun i wr => ∃ k : Nat, k ≤ n ∧ i = .int .i64 k ∧ St wr n w.heap.size (fun y => decide (y < k)) ∧ Below w.heap.size w wr) (fun i _ => n - (intOf i).toNat)
  case atStart => exact ⟨0, Nat.zero_le _, rfl, (St.made w n).congr (fun x _ => by simp), (Below.refl _ _).alloc (Nat.le_refl _) _⟩
  case round =>
    obtain ⟨k, hk, rfl, hs, hb⟩ := hrel
    have HS := Lib.hid hs
    have HB := Lib.hid hb
    clear hs hb
    by_cases hlt : k < n
    · go_wp2_with (at_mapUpdate; refine wpList_putS rfl _ _ _ rfl n w.heap.size _ k rfl rfl rfl HS.out hlt h1 ?_; intro w2 hs2 hg2)
      have HS2 := Lib.hid hs2
      have HB2 := Lib.hid (HB.out.trans ((Below.refl w.heap.size wr).grown hg2 HB.out.size (fun q hq => by cases hq; exact Nat.le_refl _)))
      clear hs2 hg2
      go_wp2
      go_roundw
      case rel => exact ⟨k + 1, by omega, by go_num, below_adj k ▸ HS2.out, HB2.out⟩
      case measure => simp [intOf]; omega
    · obtain rfl : k = n := by omega
      go_wp2
      go_ret
      exact ⟨_, rfl, Nat.le_refl _, HS.out.congr (fun x hx => by rw [img_zero hx]; simpa using hx), HB.out⟩

/-- The sets in a slice of sets are the images of 0, 1, .. steps. -/
def Imgs (w : World) (C n : Nat) (f : Nat → Nat) (v : Value) (bs : List Nat) : Prop :=
  Rg 78 w C v (bs.map fun b => Value.map (some b)) ∧ ∀ (i b : Nat), bs[i]? = some b → C ≤ b ∧ St w n b (img f n i)

/-- A slice's row and a set never lie in one block. -/
theorem row_not_set {w : World} {B n b : Nat} {e : TypeId} {v : Value} {xs : List Value} {s : Nat → Bool} (h : Rg e w B v xs) (hs : St w n b s) : some b ≠ v.ownBlock := by
  intro hc
  obtain ⟨D, ⟨es, clock, hb, _⟩, _⟩ := hs
  rcases h.2 with ⟨rfl, _⟩ | ⟨g, cap, cur, rfl, _, hg, _⟩
  · cases hc
  · simp only [Value.ownBlock, Option.some.injEq] at hc
    subst hc
    rw [hb] at hg
    cases hg

theorem Imgs.keep {w w' : World} {C n : Nat} {f : Nat → Nat} {v : Value} {bs : List Nat} (h : Imgs w C n f v bs) (hb : Below w.heap.size w w') : Imgs w' C n f v bs :=
  ⟨h.1.keep hb, fun i b hi => ⟨(h.2 i b hi).1, (h.2 i b hi).2.keep hb⟩⟩
theorem Imgs.grown {w w' : World} {C n : Nat} {f : Nat → Nat} {v : Value} {bs : List Nat} {r : Nat} (h : Imgs w C n f v bs) (hg : w.grownBy w' (some r)) (h1 : ∀ k, v.ownBlock = some k → k < r) (h2 : ∀ (i b : Nat), bs[i]? = some b → b < r) : Imgs w' C n f v bs := by
  refine ⟨h.1.grown hg ?_, fun i b hi => ⟨(h.2 i b hi).1, (h.2 i b hi).2.kept hg ?_⟩⟩
  · cases hv : v.ownBlock with
    | none => exact .inl rfl
    | some k => exact .inr (fun e => by cases e; exact absurd (h1 _ hv) (Nat.lt_irrefl _))
  · intro e; cases e; exact absurd (h2 _ _ hi) (Nat.lt_irrefl _)

end Go.Proofs.Ytejehmplebjnmaa
