/-
  Parts of slices as sources; the least number's place (parts of XV3).
-/
import Derived.Test.Ytlpmfapjgmhbhaa8L
import Derived.Test.YtlpmfapjgmhbhaaS2
import Derived.BigRegion
namespace Go.Proofs.Ytlpmfapjgmhbhaa
open Go.RowKit
set_option linter.unusedVariables false
set_option linter.unusedSimpArgs false
set_option maxRecDepth 100000

/-- A source of an append. -/
def Src (w : World) (u : Value) (ys : List Int) : Prop := (u = .slice none 0 0 ∧ ys = []) ∨ ∃ ad c, u = .slice (some ad) ys.length c ∧ ∀ j (h : j < ys.length), w.cell? (ad.add j) = some (.int .i64 ys[j])

theorem wpList_appS {w : World} {ops : Array Oper} {rest : List Oper} {o : Oper} {a : Act} {Q : Exit → Act → World → Prop} (hgd : o.guard = none) (s x : Operand)
    (ho : o.op = .call { callee := .builtin .append, args := #[s, x], argTypes := #[28, 28] })
    (B : Nat) (v u : Value) (xs ys : List Int) (hs : a.eval s = v) (hx : a.eval x = u) (hv : Rd w B v xs) (hu : Src w u ys)
    (hlen : xs.length + ys.length ≤ 17179869184) (hB : B ≤ w.heap.size)
    (h : ∀ v' w', Rd w' B v' (xs ++ ys) → w.grownBy w' v.ownBlock → Below B w w' → wpList Try.prog ops Q rest (a.put o.dst v') w') : wpList Try.prog ops Q (o :: rest) a w := by
  obtain ⟨i0, hi, hz0, hz1, hz2⟩ := info_parts info3
  have hbel : ∀ w', w.grownBy w' v.ownBlock → Below B w w' := fun w' hg => (Below.refl _ _).grown hg hB (fun k hk => (hv.lt k hk).1)
  rcases hu with ⟨rfl, rfl⟩ | ⟨ad, cap, rfl, hc⟩
  · refine wpList_append_own_none hgd s x 28 ho B 3 i0 1 Try.underlying28 hi v xs.length _ hs hv hx ?_
    exact h v w (by simpa using hv) (World.grownBy.refl _ _) (Below.refl _ _)
  · refine wpList_append_own w hgd s x 28 ho B 3 i0 (.int .i64 0) 1 8 Try.underlying28 hi hz0 hz1 hz2 rfl (by decide) v xs.length _ hs hv ad ys.length cap (ys.map (Value.int .i64)) hx (by simp) ?_ (ints_oneCell _ _) (by unfold maxLen; omega) (by omega) hB ?_
    · intro j q hj
      have hj' : j < ys.length := by
        have := (List.getElem?_eq_some_iff.1 hj).1
        simpa using this
      rw [hc j hj', ← hj]
      simp [hj']
    · intro v' w' h2 h3 _
      refine h v' w' ?_ h3 (hbel w' h3)
      unfold Rd
      rw [List.length_append, List.map_append]
      exact h2

theorem Rd.take {w : World} {B g n cap : Nat} {xs : List Int} (h : Rd w B (.slice (some ⟨g, 0, none⟩) n cap) xs) (k : Nat) (hk : k ≤ xs.length) : Rd w B (.slice (some ⟨g, 0, none⟩) k cap) (xs.take k) := by
  obtain ⟨rfl, _⟩ := h.at
  rcases h.2 with ⟨h1, _⟩ | ⟨g', cap', cur, hv, hg, hh, hn, hm, hc, ht⟩
  · simp at h1
  · simp only [Value.slice.injEq, Option.some.injEq, Addr.mk.injEq, and_true, true_and] at hv
    obtain ⟨rfl, rfl⟩ := hv
    have hkl : (xs.take k).length = k := by simp; omega
    refine ⟨by simp, .inr ⟨g, cap, cur, by rw [hkl], hg, hh, by omega, hm, hc, ?_⟩⟩
    rw [hkl, Nat.mul_one, List.map_take]
    rw [Nat.mul_one] at ht
    rw [← ht, List.take_take, Nat.min_eq_left hk]

theorem src_drop {w : World} {B g n cap : Nat} {xs : List Int} (h : Rd w B (.slice (some ⟨g, 0, none⟩) n cap) xs) (q c : Nat) (o m : Nat) (hq : q ≤ xs.length) (ho : q < xs.length → o = q) (hm : m = xs.length - q) :
    Src w (.slice (some ⟨g, o, none⟩) m c) (xs.drop q) := by
  refine .inr ⟨⟨g, o, none⟩, c, by rw [List.length_drop, hm], fun j hj => ?_⟩
  have hj' : j < xs.length - q := by simpa using hj
  obtain rfl := ho (by omega)
  rw [addr_add, h.at.2.2.2.2.1 (o + j) (by omega)]
  simp


/-- What is read of the numbers of a slice, from its address on. -/
def CellsAt (w : World) (g o : Nat) (xs : List Int) : Prop := ∀ j, j < xs.length → w.cell? ⟨g, o + j, none⟩ = some (.int .i64 (xs.getD j 0))

theorem Rd.cellsAt {w : World} {B g n c : Nat} {xs : List Int} (h : Rd w B (.slice (some ⟨g, 0, none⟩) n c) xs) (t : Nat) : CellsAt w g t (xs.drop t) := by
  intro j hj
  rw [List.length_drop] at hj
  have h2 : t + j < xs.length := by omega
  rw [h.at.2.2.2.2.1 (t + j) h2]
  congr 2
  rw [List.getD_eq_getElem?_getD, List.getElem?_drop, List.getElem?_eq_getElem h2]
  rfl

theorem Src.keep {w w' : World} {u : Value} {ys : List Int} (h : Src w u ys) (hb : Below w.heap.size w w') : Src w' u ys := by
  rcases h with h | ⟨ad, c, h1, h2⟩
  · exact .inl h
  · exact .inr ⟨ad, c, h1, fun j hj => Below.keeps_cell hb (h2 j hj)⟩

theorem rd_empty0 (w : World) : Rd (w.alloc (.cells #[] 3)) w.heap.size (.slice (some ⟨w.heap.size, 0, none⟩) 0 0) [] := by
  have := World.ownsRow_lit (e := 3) (size := 1) (base := w.heap.size) w #[] 0 (Nat.le_refl _) (by unfold maxLen; omega) rfl
  exact this

theorem own_src (v : Value) (xs : List Int) (w : World) (h : Src w v xs) (hl : xs.length ≤ 2000000000) :
    Calls Try.prog 56 #[v] w fun e w' => ∃ u, e = .returned u ∧ Rd w' w.heap.size u xs ∧ Below w.heap.size w w' := by
  have H := Lib.hid h
  clear h
  go_enter Try.func56, Try.ntmps56
  go_wp2_with (at_builtin; refine wpList_appS rfl (.tmp 3) (.tmp 4) rfl w.heap.size _ _ [] xs rfl rfl (rd_empty0 w) (H.out.keep (alloc_below w _)) (by simp; omega) (by simp) ?_; intro v1 w1 hr1 hg1 hb1; have R1 := Lib.hid hr1; have B1 := Lib.hid ((alloc_below w (.cells #[] 3)).trans hb1); clear hr1 hg1 hb1)
  go_ret
  exact ⟨_, rfl, by have := R1.out; rwa [List.nil_append] at this, B1.out⟩

/-- An append at a step of a region that draws its order. -/
theorem step_appS {w : World} {ops : Array Oper} {o : Oper} {a : Act} {K : Act → World → Prop} {Q : Exit → Act → World → Prop} {E : Prop} (hgd : o.guard = none) (s x : Operand)
    (ho : o.op = .call { callee := .builtin .append, args := #[s, x], argTypes := #[28, 28] })
    (B : Nat) (v : Value) (xs ys : List Int) (ad : Addr) (m c : Nat) (hs : a.eval s = v) (hx : a.eval x = .slice (some ad) m c) (hv : Rd w B v xs) (hm : ys.length = m)
    (hc : ∀ j (h : j < ys.length), w.cell? (ad.add j) = some (.int .i64 ys[j])) (hlen : xs.length + ys.length ≤ 17179869184) (hB : B ≤ w.heap.size)
    (h : ∀ v' w', Rd w' B v' (xs ++ ys) → w.grownBy w' v.ownBlock → Below B w w' → K (a.put o.dst v') w') :
    if Region.wanted o (yielded ops a.tmps) = true then Oper.wp Try.prog o a w K Q else E := by
  have hw : Region.wanted o (yielded ops a.tmps) = true := by simp [Region.wanted, hgd]
  rw [if_pos hw]
  obtain ⟨i0, hi, hz0, hz1, hz2⟩ := info_parts info3
  subst hm
  obtain ⟨v', w', hr, h2, h3, _⟩ := run_append_own (P := Try.prog) w B 28 o.type 3 i0 (.int .i64 0) 1 8 Try.underlying28 hi hz0 hz1 hz2 rfl (by decide) v xs.length _ hv ad ys.length c (ys.map (Value.int .i64)) (by simp) (fun j q hj => by
    have hj' : j < ys.length := by have := (List.getElem?_eq_some_iff.1 hj).1; simpa using this
    rw [hc j hj', ← hj]
    simp [hj']) (ints_oneCell _ _) (by unfold maxLen; omega) (by omega) hB
  unfold Oper.wp execOp
  simp only [ho, resolve, invoke, builtin, Sem.run_bind, Sem.run_pure, Result.andThen_ok, List.map_toArray, List.map_cons, List.map_nil, hs, hx, hr]
  refine h v' w' ?_ h3 ((Below.refl _ _).grown h3 hB (fun k hk => (hv.lt k hk).1))
  unfold Rd
  rw [List.length_append, List.map_append]
  exact h2

/-- The place of the least of the first k numbers. -/
def miTo (xs : List Int) : Nat → Nat
  | 0 => 0
  | k + 1 => if xs.getD k 0 < xs.getD (miTo xs k) 0 then k else miTo xs k
theorem miTo_succ (xs : List Int) (k : Nat) : miTo xs (k + 1) = if xs.getD k 0 < xs.getD (miTo xs k) 0 then k else miTo xs k := rfl
theorem miTo_lt (xs : List Int) : ∀ k, miTo xs k ≤ k - 1
  | 0 => Nat.le_refl _
  | k + 1 => by rw [miTo_succ]; have := miTo_lt xs k; split <;> omega
theorem miTo_min (xs : List Int) : ∀ k, k < xs.length → xs.getD (miTo xs (k + 1)) 0 = Lib.minOf (xs.take (k + 1))
  | 0, h => by
    rw [Lib.minOf_one]
    have : miTo xs (0 + 1) = 0 := by have := miTo_lt xs (0 + 1); omega
    rw [this]
  | k + 1, h => by
    have ih := miTo_min xs k (by omega)
    rw [Lib.minOf_step xs (k + 1) (by omega) h, ← ih, miTo_succ xs (k + 1)]
    split
    · omega
    · omega
/-- The place of the least number. -/
def mi (xs : List Int) : Nat := miTo xs xs.length
theorem mi_lt {xs : List Int} (h : 0 < xs.length) : mi xs < xs.length := by have := miTo_lt xs xs.length; unfold mi; omega
theorem mi_min {xs : List Int} (h : 0 < xs.length) : xs.getD (mi xs) 0 = Lib.minOf xs := by
  obtain ⟨k, hk⟩ : ∃ k, xs.length = k + 1 := ⟨xs.length - 1, by omega⟩
  unfold mi
  rw [hk, miTo_min xs k (by omega), ← hk, List.take_of_length_le (Nat.le_refl _)]
/-- A cycle turned. -/
def turn (xs : List Int) : List Int := xs.drop (mi xs) ++ xs.take (mi xs)
theorem turn_len (xs : List Int) : (turn xs).length = xs.length := by simp [turn]; omega
theorem turn_head {xs : List Int} (h : 0 < xs.length) : (turn xs).getD 0 0 = Lib.minOf xs := by
  rw [← mi_min h]
  have h2 := mi_lt h
  unfold turn
  rw [List.getD_eq_getElem?_getD, List.getElem?_append_left (by simp; omega), List.getElem?_drop, Nat.add_zero, ← List.getD_eq_getElem?_getD]

theorem src_cells {w : World} {g o c m : Nat} {xs : List Int} (h : CellsAt w g o xs) (hm : m = xs.length) : Src w (.slice (some ⟨g, o, none⟩) m c) xs := by
  subst hm
  refine .inr ⟨⟨g, o, none⟩, c, rfl, fun j hj => ?_⟩
  rw [addr_add, h j hj, List.getD_eq_getElem?_getD, List.getElem?_eq_getElem hj]
  rfl
theorem CellsAt.drop {w : World} {g o : Nat} {xs : List Int} (h : CellsAt w g o xs) (t : Nat) : CellsAt w g (o + t) (xs.drop t) := by
  intro j hj
  rw [List.length_drop] at hj
  rw [Nat.add_assoc, h (t + j) (by omega)]
  congr 2
  simp [List.getD_eq_getElem?_getD, List.getElem?_drop]
theorem CellsAt.take {w : World} {g o : Nat} {xs : List Int} (h : CellsAt w g o xs) (t : Nat) : CellsAt w g o (xs.take t) := by
  intro j hj
  rw [List.length_take] at hj
  rw [h j (by omega)]
  congr 2
  simp [List.getD_eq_getElem?_getD, List.getElem?_take, show j < t by omega]
theorem CellsAt.keep {w w' : World} {g o : Nat} {xs : List Int} (h : CellsAt w g o xs) (hb : Below w.heap.size w w') : CellsAt w' g o xs := fun j hj => Below.keeps_cell hb (h j hj)
theorem CellsAt.drew {w : World} {g o : Nat} {xs : List Int} (h : CellsAt w g o xs) : CellsAt w.drew g o xs := h

end Go.Proofs.Ytlpmfapjgmhbhaa
