/-
  Parts of slices as sources (parts of X8S): copies of them.
-/
import Derived.Test.Ytgiabadkbfbilab9E
import Derived.Test.YtgiabadkbfbilabI
namespace Go.Proofs.Ytgiabadkbfbilab
open Go.RowKit
set_option linter.unusedVariables false
set_option linter.unusedSimpArgs false
set_option maxRecDepth 100000

/-- A source of an append. -/
def Src (w : World) (u : Value) (ys : List Int) : Prop := (u = .slice none 0 0 ∧ ys = []) ∨ ∃ ad c, u = .slice (some ad) ys.length c ∧ ∀ j (h : j < ys.length), w.cell? (ad.add j) = some (.int .i64 ys[j])

theorem wpList_appS {w : World} {ops : Array Oper} {rest : List Oper} {o : Oper} {a : Act} {Q : Exit → Act → World → Prop} (hgd : o.guard = none) (s x : Operand)
    (ho : o.op = .call { callee := .builtin .append, args := #[s, x], argTypes := #[26, 26] })
    (B : Nat) (v u : Value) (xs ys : List Int) (hs : a.eval s = v) (hx : a.eval x = u) (hv : Rd w B v xs) (hu : Src w u ys)
    (hlen : xs.length + ys.length ≤ 17179869184) (hB : B ≤ w.heap.size)
    (h : ∀ v' w', Rd w' B v' (xs ++ ys) → w.grownBy w' v.ownBlock → Below B w w' → wpList Try.prog ops Q rest (a.put o.dst v') w') : wpList Try.prog ops Q (o :: rest) a w := by
  obtain ⟨i0, hi, hz0, hz1, hz2⟩ := info_parts info3
  have hbel : ∀ w', w.grownBy w' v.ownBlock → Below B w w' := fun w' hg => (Below.refl _ _).grown hg hB (fun k hk => (hv.lt k hk).1)
  rcases hu with ⟨rfl, rfl⟩ | ⟨ad, cap, rfl, hc⟩
  · refine wpList_append_own_none hgd s x 26 ho B 3 i0 1 Try.underlying26 hi v xs.length _ hs hv hx ?_
    exact h v w (by simpa using hv) (World.grownBy.refl _ _) (Below.refl _ _)
  · refine wpList_append_own w hgd s x 26 ho B 3 i0 (.int .i64 0) 1 8 Try.underlying26 hi hz0 hz1 hz2 rfl (by decide) v xs.length _ hs hv ad ys.length cap (ys.map (Value.int .i64)) hx (by simp) ?_ (ints_oneCell _ _) (by unfold maxLen; omega) (by omega) hB ?_
    · intro j q hj
      have hj' : j < ys.length := by
        have := (List.getElem?_eq_some_iff.1 hj).1
        simpa using this
      rw [hc j hj', ← hj]
      simp [hj']
    · intro v' w' h2 h3 _
      refine h v' w' ?_ h3 (hbel w' h3)
      unfold Rd
      rw [List.length_append, List.map_append]
      exact h2

theorem Rd.take {w : World} {B g n cap : Nat} {xs : List Int} (h : Rd w B (.slice (some ⟨g, 0, none⟩) n cap) xs) (k : Nat) (hk : k ≤ xs.length) : Rd w B (.slice (some ⟨g, 0, none⟩) k cap) (xs.take k) := by
  obtain ⟨rfl, _⟩ := h.at
  rcases h.2 with ⟨h1, _⟩ | ⟨g', cap', cur, hv, hg, hh, hn, hm, hc, ht⟩
  · simp at h1
  · simp only [Value.slice.injEq, Option.some.injEq, Addr.mk.injEq, and_true, true_and] at hv
    obtain ⟨rfl, rfl⟩ := hv
    have hkl : (xs.take k).length = k := by simp; omega
    refine ⟨by simp, .inr ⟨g, cap, cur, by rw [hkl], hg, hh, by omega, hm, hc, ?_⟩⟩
    rw [hkl, Nat.mul_one, List.map_take]
    rw [Nat.mul_one] at ht
    rw [← ht, List.take_take, Nat.min_eq_left hk]

theorem src_drop {w : World} {B g n cap : Nat} {xs : List Int} (h : Rd w B (.slice (some ⟨g, 0, none⟩) n cap) xs) (q c : Nat) (o m : Nat) (hq : q ≤ xs.length) (ho : q < xs.length → o = q) (hm : m = xs.length - q) :
    Src w (.slice (some ⟨g, o, none⟩) m c) (xs.drop q) := by
  refine .inr ⟨⟨g, o, none⟩, c, by rw [List.length_drop, hm], fun j hj => ?_⟩
  have hj' : j < xs.length - q := by simpa using hj
  obtain rfl := ho (by omega)
  rw [addr_add, h.at.2.2.2.2.1 (o + j) (by omega)]
  simp


theorem Src.keep {w w' : World} {u : Value} {ys : List Int} (h : Src w u ys) (hb : Below w.heap.size w w') : Src w' u ys := by
  rcases h with h | ⟨ad, c, h1, h2⟩
  · exact .inl h
  · exact .inr ⟨ad, c, h1, fun j hj => Below.keeps_cell hb (h2 j hj)⟩

theorem rd_empty0 (w : World) : Rd (w.alloc (.cells #[] 3)) w.heap.size (.slice (some ⟨w.heap.size, 0, none⟩) 0 0) [] := by
  have := World.ownsRow_lit (e := 3) (size := 1) (base := w.heap.size) w #[] 0 (Nat.le_refl _) (by unfold maxLen; omega) rfl
  exact this

theorem own_src (v : Value) (xs : List Int) (w : World) (h : Src w v xs) (hl : xs.length ≤ 2000000000) :
    Calls Try.prog 69 #[v] w fun e w' => ∃ u, e = .returned u ∧ Rd w' w.heap.size u xs ∧ Below w.heap.size w w' := by
  have H := Lib.hid h
  clear h
  go_enter Try.func69, Try.ntmps69
  go_wp2_with (at_builtin; refine wpList_appS rfl (.tmp 3) (.tmp 4) rfl w.heap.size _ _ [] xs rfl rfl (rd_empty0 w) (H.out.keep (alloc_below w _)) (by simp; omega) (by simp) ?_; intro v1 w1 hr1 hg1 hb1; have R1 := Lib.hid hr1; have B1 := Lib.hid ((alloc_below w (.cells #[] 3)).trans hb1); clear hr1 hg1 hb1)
  go_ret
  exact ⟨_, rfl, by have := R1.out; rwa [List.nil_append] at this, B1.out⟩


theorem Src.drew {w : World} {u : Value} {ys : List Int} (h : Src w u ys) : Src w.drew u ys := h

theorem clone_src (ad : Addr) (n cap : Nat) (xs : List Int) (w : World) (h : Src w (.slice (some ad) n cap) xs) (hl : xs.length ≤ 2000000000) :
    Calls Try.prog 64 #[.slice (some ad) n cap] w fun e w' => ∃ u, e = .returned u ∧ Rd w' w.heap.size u xs ∧ Below w.heap.size w w' := by
  have H := Lib.hid h
  clear h
  have hnil := fun (w : World) => Lib.run_eql_slice_nil (P := Try.prog) w 26 3 (some ad) n cap 0 0 Try.underlying26
  go_enter Try.func64, Try.ntmps64
  go_wp2_with (at_builtin; refine wpList_appS rfl (.tmp 5) (.tmp 6) rfl w.heap.size _ _ [] xs rfl rfl (rd_empty0 w) (H.out.keep (alloc_below w _)) (by simp; omega) (by simp) ?_; intro v1 w1 hr1 hg1 hb1; have R1 := Lib.hid hr1; have B1 := Lib.hid ((alloc_below w (.cells #[] 3)).trans hb1); clear hr1 hg1 hb1)
  go_ret
  exact ⟨_, rfl, by have := R1.out; rwa [List.nil_append] at this, B1.out⟩

end Go.Proofs.Ytgiabadkbfbilab
