/-
  The model's increasing lists without repeats.
-/
import Derived.Test.YtbgnieajeipllaaR2
import Derived.Test.YtbgnieajeipllaaW2
namespace Go.Proofs.Ytbgnieajeipllaa
open Go.RowKit
set_option linter.unusedVariables false
set_option linter.unusedSimpArgs false
set_option maxRecDepth 100000

/-- A source of an append. -/
def SrcV (w : World) (u : Value) (ys : List Int) : Prop := (u = .slice none 0 0 ∧ ys = []) ∨ ∃ ad c, u = .slice (some ad) ys.length c ∧ ∀ j (h : j < ys.length), w.cell? (ad.add j) = some (.int .i64 ys[j])

theorem wpList_appV {w : World} {ops : Array Oper} {rest : List Oper} {o : Oper} {a : Act} {Q : Exit → Act → World → Prop} (hgd : o.guard = none) (s x : Operand)
    (ho : o.op = .call { callee := .builtin .append, args := #[s, x], argTypes := #[25, 25] })
    (B : Nat) (v u : Value) (xs ys : List Int) (hs : a.eval s = v) (hx : a.eval x = u) (hv : Rd w B v xs) (hu : SrcV w u ys)
    (hlen : xs.length + ys.length ≤ 17179869184) (hB : B ≤ w.heap.size)
    (h : ∀ v' w', Rd w' B v' (xs ++ ys) → w.grownBy w' v.ownBlock → Below B w w' → wpList Try.prog ops Q rest (a.put o.dst v') w') : wpList Try.prog ops Q (o :: rest) a w := by
  obtain ⟨i0, hi, hz0, hz1, hz2⟩ := info_parts info3
  have hbel : ∀ w', w.grownBy w' v.ownBlock → Below B w w' := fun w' hg => (Below.refl _ _).grown hg hB (fun k hk => (hv.lt k hk).1)
  rcases hu with ⟨rfl, rfl⟩ | ⟨ad, cap, rfl, hc⟩
  · refine wpList_append_own_none hgd s x 25 ho B 3 i0 1 Try.underlying25 hi v xs.length _ hs hv hx ?_
    exact h v w (by simpa using hv) (World.grownBy.refl _ _) (Below.refl _ _)
  · refine wpList_append_own w hgd s x 25 ho B 3 i0 (.int .i64 0) 1 8 Try.underlying25 hi hz0 hz1 hz2 rfl (by decide) v xs.length _ hs hv ad ys.length cap (ys.map (Value.int .i64)) hx (by simp) ?_ (ints_oneCell _ _) (by unfold maxLen; omega) (by omega) hB ?_
    · intro j q hj
      have hj' : j < ys.length := by
        have := (List.getElem?_eq_some_iff.1 hj).1
        simpa using this
      rw [hc j hj', ← hj]
      simp [hj']
    · intro v' w' h2 h3 _
      refine h v' w' ?_ h3 (hbel w' h3)
      unfold Rd
      rw [List.length_append, List.map_append]
      exact h2

theorem addr_addV (g o j : Nat) : (⟨g, o, none⟩ : Addr).add j = ⟨g, o + j, none⟩ := by
  unfold Addr.add
  split <;> simp_all

theorem srcV_drop {w : World} {B g n cap : Nat} {xs : List Int} (h : Rd w B (.slice (some ⟨g, 0, none⟩) n cap) xs) (q c : Nat) (o m : Nat) (hq : q ≤ xs.length) (ho : q < xs.length → o = q) (hm : m = xs.length - q) :
    SrcV w (.slice (some ⟨g, o, none⟩) m c) (xs.drop q) := by
  refine .inr ⟨⟨g, o, none⟩, c, by rw [List.length_drop, hm], fun j hj => ?_⟩
  have hj' : j < xs.length - q := by simpa using hj
  obtain rfl := ho (by omega)
  rw [addr_addV, h.at.2.2.2.2.1 (o + j) (by omega)]
  simp
theorem srcV_take {w : World} {B g n cap : Nat} {xs : List Int} (h : Rd w B (.slice (some ⟨g, 0, none⟩) n cap) xs) (q c : Nat) (hq : q ≤ xs.length) : SrcV w (.slice (some ⟨g, 0, none⟩) q c) (xs.take q) := by
  refine .inr ⟨⟨g, 0, none⟩, c, by rw [List.length_take, Nat.min_eq_left hq], fun j hj => ?_⟩
  have hj' : j < q := by rw [List.length_take] at hj; omega
  rw [addr_addV, Nat.zero_add, h.at.2.2.2.2.1 j (by omega)]
  simp

theorem rd_emptyV (w : World) : Rd (w.alloc (.cells #[] 3)) w.heap.size (.slice (some ⟨w.heap.size, 0, none⟩) 0 0) [] := by
  have := World.ownsRow_lit (e := 3) (size := 1) (base := w.heap.size) w #[] 0 (Nat.le_refl _) (by unfold maxLen; omega) rfl
  exact this

/-- A number laid into an increasing list. -/
theorem putv_rise (xs : List Int) (x : Int) (k : Nat) (hk : k ≤ xs.length) (hs : xs.Pairwise (· < ·)) (h1 : ∀ j (hj : j < xs.length), j < k → xs[j] < x) (h2 : ∀ (h : k < xs.length), x < xs[k]) :
    (xs.take k ++ [x] ++ xs.drop k).Pairwise (· < ·) ∧ ∀ z, z ∈ xs.take k ++ [x] ++ xs.drop k ↔ z ∈ xs ∨ z = x := by
  have hs' : (xs.take k ++ xs.drop k).Pairwise (· < ·) := by rw [List.take_append_drop]; exact hs
  rw [List.pairwise_append] at hs'
  obtain ⟨ha, hb, hc⟩ := hs'
  have hx : ∀ a ∈ xs.take k, a < x := by
    intro a ha
    obtain ⟨j, hj, rfl⟩ := List.getElem_of_mem ha
    have hj' : j < k ∧ j < xs.length := by simp at hj; omega
    rw [List.getElem_take]
    exact h1 j hj'.2 hj'.1
  have hy : ∀ a ∈ xs.drop k, x < a := by
    intro a ha
    have hlt : k < xs.length := by
      have := List.length_pos_of_mem ha
      simp at this
      omega
    rw [drop_cons xs k hlt] at ha hb
    rw [List.pairwise_cons] at hb
    have h3 := h2 hlt
    rcases List.mem_cons.1 ha with rfl | ha
    · exact h3
    · have := hb.1 a ha; omega
  constructor
  · rw [List.append_assoc, List.pairwise_append]
    refine ⟨ha, ?_, ?_⟩
    · rw [List.singleton_append, List.pairwise_cons]
      exact ⟨hy, hb⟩
    · intro a ha2 b hb2
      rw [List.singleton_append, List.mem_cons] at hb2
      rcases hb2 with rfl | hb2
      · exact hx a ha2
      · exact hc a ha2 b hb2
  · intro z
    have : z ∈ xs ↔ z ∈ xs.take k ∨ z ∈ xs.drop k := by rw [← List.mem_append, List.take_append_drop]
    rw [this]
    simp only [List.mem_append, List.mem_singleton]
    constructor
    · rintro ((h | h) | h) <;> simp [h]
    · rintro ((h | h) | h) <;> simp [h]

theorem putv_there (xs : List Int) (x : Int) (k : Nat) (hk : k < xs.length) (he : xs[k] = x) : ∀ z, z ∈ xs ↔ z ∈ xs ∨ z = x := fun z => by
  constructor
  · exact .inl
  · rintro (h | rfl)
    · exact h
    · rw [← he]; exact List.getElem_mem hk

set_option maxHeartbeats 1000000 in
theorem l1PutV_any (v : Value) (xs : List Int) (x : Int) (B : Nat) (w : World) (h : Rd w B v xs) (hB : B ≤ w.heap.size) (hl : xs.length ≤ 1000000) (hs : xs.Pairwise (· < ·)) :
    Calls Try.prog 72 #[v, .int .i64 x] w fun e w' => ∃ u, e = .returned u ∧ ∃ ys, Rd w' B u ys ∧ ys.Pairwise (· < ·) ∧ (∀ z, z ∈ ys ↔ z ∈ xs ∨ z = x) ∧ Below w.heap.size w w' := by
  have H := Lib.hid h
  have HS := Lib.hid hs
  rcases h.cases with ⟨rfl, rfl⟩ | ⟨g, cap, rfl, hg, hgl, hoc, hcm, hoc2, hof⟩
  · have HP := Lib.hid (putv_rise [] x 0 (by simp) List.Pairwise.nil (fun j hj => by simp at hj) (fun h => by simp at h))
    clear h hs
    go_enter Try.func72, Try.ntmps72
    go_wp2
    refine wp_loop_rounds 1 ?_
    rw [rounds_succ]
    go_wp2_with (first | (at_builtin; refine wpList_appV rfl (.tmp 34) (.tmp 37) rfl w.heap.size _ _ [] [] rfl rfl (rd_emptyV w) (.inl ⟨rfl, rfl⟩) (by simp) (by simp) ?_; intro v1 w1 hr1 hg1 hb1; have R1 := Lib.hid hr1; have B1 := Lib.hid (((Below.refl w.heap.size w).alloc (Nat.le_refl _) (.cells #[] 3)).trans hb1); have Z1 := B1.out.size; clear hr1 hg1 hb1) | (at_builtin; refine wpList_appR rfl (.tmp 39) (.tmp 41) rfl w.heap.size w.heap.size _ _ [] [x] rfl rfl (R1.out.alloc _) (Rd.litB _ _ _ Z1) (by simp) (by simp; omega) ?_; intro v2 w2 hr2 hg2 hb2; have R2 := Lib.hid hr2; have B2 := Lib.hid ((B1.out.alloc Z1 _).trans hb2); have Z2 := B2.out.size; clear hr2 hg2 hb2) | (at_builtin; refine wpList_appV rfl (.tmp 43) (.tmp 46) rfl w.heap.size _ _ [x] [] rfl rfl R2.out (.inl ⟨rfl, rfl⟩) (by simp) Z2 ?_; intro v3 w3 hr3 hg3 hb3; have R3 := Lib.hid hr3; have B3 := Lib.hid (B2.out.trans hb3); clear hr3 hg3 hb3))
    go_ret
    exact ⟨_, rfl, [x], R3.out.mono hB, by simp, by simp, B3.out⟩
  · have HC := Lib.hid hoc2
    clear hoc2 hof h hs
    go_enter Try.func72, Try.ntmps72
    go_wp2
    go_loop [5] (fun j => ∃ q : Nat, q ≤ xs.length ∧ j = .int .i64 q ∧ Hid (∀ t (ht : t < xs.length), t < q → xs[t] < x)) (fun j => xs.length - (intOf j).toNat)
    case atStart => exact ⟨0, Nat.zero_le _, rfl, Lib.hid (fun t ht h => by omega)⟩
    case round =>
      obtain ⟨q, hq, rfl, HQ⟩ := hrel
      by_cases hq1 : q < xs.length
      · have hcq := HC.out q hq1
        by_cases hle : xs[q] < x
        · go_wp2
          go_round
          case rel => exact ⟨q + 1, by omega, by go_num, Lib.hid (fun t ht h => by by_cases e : t = q; (subst e; exact hle); exact HQ.out t ht (by omega))⟩
          case measure => simp [intOf]; omega
        · have hle2 : x ≤ xs[q] := by omega
          by_cases he : xs[q] = x
          · have hbq : (xs[q] == x) = true := beq_yes he
            have HM := Lib.hid (putv_there xs x q hq1 he)
            clear hle he
            go_wp2
            go_ret
            exact ⟨_, rfl, xs, H.out, HS.out, HM.out, Below.refl _ _⟩
          · have hbq : (xs[q] == x) = false := beq_no he
            have HP := Lib.hid (putv_rise xs x q hq HS.out HQ.out (fun _ => by omega))
            have hqc : q < cap := by omega
            have hqc2 : q ≤ cap := by omega
            clear hle he
            go_wp2_with (first | (at_builtin; refine wpList_appV rfl (.tmp 34) (.tmp 37) rfl w.heap.size _ _ [] (xs.take q) rfl rfl (rd_emptyV w) (srcV_take (H.out.alloc _) q _ hq) (by simp; omega) (by simp) ?_; intro v1 w1 hr1 hg1 hb1; have R1 := Lib.hid hr1; have B1 := Lib.hid (((Below.refl w.heap.size w).alloc (Nat.le_refl _) (.cells #[] 3)).trans hb1); have Z1 := B1.out.size; clear hr1 hg1 hb1) | (at_builtin; refine wpList_appR rfl (.tmp 39) (.tmp 41) rfl w.heap.size w.heap.size _ _ ([] ++ xs.take q) [x] rfl rfl (R1.out.alloc _) (Rd.litB _ _ _ Z1) (by simp; omega) (by simp; omega) ?_; intro v2 w2 hr2 hg2 hb2; have R2 := Lib.hid hr2; have B2 := Lib.hid ((B1.out.alloc Z1 _).trans hb2); have Z2 := B2.out.size; clear hr2 hg2 hb2) | (at_builtin; refine wpList_appV rfl (.tmp 43) (.tmp 46) rfl w.heap.size _ _ ([] ++ xs.take q ++ [x]) (xs.drop q) rfl rfl R2.out (srcV_drop (H.out.keep B2.out) q _ _ _ hq (fun h => by first | rfl | omega) (by omega)) (by simp; omega) Z2 ?_; intro v3 w3 hr3 hg3 hb3; have R3 := Lib.hid hr3; have B3 := Lib.hid (B2.out.trans hb3); clear hr3 hg3 hb3))
            go_ret
            exact ⟨_, rfl, _, R3.out.mono hB, HP.out.1, HP.out.2, B3.out⟩
      · obtain rfl : q = xs.length := by omega
        have HP := Lib.hid (putv_rise xs x xs.length (Nat.le_refl _) HS.out HQ.out (fun h => absurd h (Nat.lt_irrefl _)))
        have hqc2 : xs.length ≤ cap := by omega
        by_cases hcl : xs.length < cap
        all_goals
          go_wp2_with (first | (at_builtin; refine wpList_appV rfl (.tmp 34) (.tmp 37) rfl w.heap.size _ _ [] (xs.take xs.length) rfl rfl (rd_emptyV w) (srcV_take (H.out.alloc _) xs.length _ (Nat.le_refl _)) (by simp; omega) (by simp) ?_; intro v1 w1 hr1 hg1 hb1; have R1 := Lib.hid hr1; have B1 := Lib.hid (((Below.refl w.heap.size w).alloc (Nat.le_refl _) (.cells #[] 3)).trans hb1); have Z1 := B1.out.size; clear hr1 hg1 hb1) | (at_builtin; refine wpList_appR rfl (.tmp 39) (.tmp 41) rfl w.heap.size w.heap.size _ _ ([] ++ xs.take xs.length) [x] rfl rfl (R1.out.alloc _) (Rd.litB _ _ _ Z1) (by simp; omega) (by simp; omega) ?_; intro v2 w2 hr2 hg2 hb2; have R2 := Lib.hid hr2; have B2 := Lib.hid ((B1.out.alloc Z1 _).trans hb2); have Z2 := B2.out.size; clear hr2 hg2 hb2) | (at_builtin; refine wpList_appV rfl (.tmp 43) (.tmp 46) rfl w.heap.size _ _ ([] ++ xs.take xs.length ++ [x]) (xs.drop xs.length) rfl rfl R2.out (srcV_drop (H.out.keep B2.out) xs.length _ _ _ (Nat.le_refl _) (fun h => by first | rfl | omega) (by omega)) (by simp; omega) Z2 ?_; intro v3 w3 hr3 hg3 hb3; have R3 := Lib.hid hr3; have B3 := Lib.hid (B2.out.trans hb3); clear hr3 hg3 hb3))
          go_ret
          exact ⟨_, rfl, _, R3.out.mono hB, HP.out.1, HP.out.2, B3.out⟩

end Go.Proofs.Ytbgnieajeipllaa
