/-
  Joint text of VA VD VE VC VF VG VH VI (written by wip/tools/merge.py).
-/
import Derived.Test.YtnniiobiedfmoaaR2
import Derived.Test.YtnniiobiedfmoaaW2
import Derived.Test.YtnniiobiedfmoaaVB
import Derived.Test.YtnniiobiedfmoaaUC
import Derived.Test.YtnniiobiedfmoaaM
import Derived.Test.YtnniiobiedfmoaaE2
import Derived.Test.YtnniiobiedfmoaaI
import Derived.Deep.RegionLaw
import Derived.Deep.RegionHeld3
import Derived.BigRegion
import Derived.Lib.SmallJoins
import Derived.Test.YtnniiobiedfmoaaUD
import Derived.Test.YtnniiobiedfmoaaH3
import Derived.Test.YtnniiobiedfmoaaS6
import Derived.Test.YtnniiobiedfmoaaUE
import Derived.Test.YtnniiobiedfmoaaC
import Derived.Test.YtnniiobiedfmoaaUH
import Derived.Lib.SliceRun
import Derived.Test.YtnniiobiedfmoaaUK
/- from XVA -/
namespace Go.Proofs.Ytnniiobiedfmoaa
open Go.RowKit
set_option linter.unusedVariables false
set_option linter.unusedSimpArgs false
set_option maxRecDepth 100000

/-- A source of an append. -/
def SrcV (w : World) (u : Value) (ys : List Int) : Prop := (u = .slice none 0 0 ∧ ys = []) ∨ ∃ ad c, u = .slice (some ad) ys.length c ∧ ∀ j (h : j < ys.length), w.cell? (ad.add j) = some (.int .i64 ys[j])

theorem wpList_appV {w : World} {ops : Array Oper} {rest : List Oper} {o : Oper} {a : Act} {Q : Exit → Act → World → Prop} (hgd : o.guard = none) (s x : Operand)
    (ho : o.op = .call { callee := .builtin .append, args := #[s, x], argTypes := #[26, 26] })
    (B : Nat) (v u : Value) (xs ys : List Int) (hs : a.eval s = v) (hx : a.eval x = u) (hv : Rd w B v xs) (hu : SrcV w u ys)
    (hlen : xs.length + ys.length ≤ 17179869184) (hB : B ≤ w.heap.size)
    (h : ∀ v' w', Rd w' B v' (xs ++ ys) → w.grownBy w' v.ownBlock → Below B w w' → wpList Try.prog ops Q rest (a.put o.dst v') w') : wpList Try.prog ops Q (o :: rest) a w := by
  obtain ⟨i0, hi, hz0, hz1, hz2⟩ := info_parts info3
  have hbel : ∀ w', w.grownBy w' v.ownBlock → Below B w w' := fun w' hg => (Below.refl _ _).grown hg hB (fun k hk => (hv.lt k hk).1)
  rcases hu with ⟨rfl, rfl⟩ | ⟨ad, cap, rfl, hc⟩
  · refine wpList_append_own_none hgd s x 26 ho B 3 i0 1 Try.underlying26 hi v xs.length _ hs hv hx ?_
    exact h v w (by simpa using hv) (World.grownBy.refl _ _) (Below.refl _ _)
  · refine wpList_append_own w hgd s x 26 ho B 3 i0 (.int .i64 0) 1 8 Try.underlying26 hi hz0 hz1 hz2 rfl (by decide) v xs.length _ hs hv ad ys.length cap (ys.map (Value.int .i64)) hx (by simp) ?_ (ints_oneCell _ _) (by unfold maxLen; omega) (by omega) hB ?_
    · intro j q hj
      have hj' : j < ys.length := by
        have := (List.getElem?_eq_some_iff.1 hj).1
        simpa using this
      rw [hc j hj', ← hj]
      simp [hj']
    · intro v' w' h2 h3 _
      refine h v' w' ?_ h3 (hbel w' h3)
      unfold Rd
      rw [List.length_append, List.map_append]
      exact h2

theorem addr_addV (g o j : Nat) : (⟨g, o, none⟩ : Addr).add j = ⟨g, o + j, none⟩ := by
  unfold Addr.add
  split <;> simp_all

theorem srcV_drop {w : World} {B g n cap : Nat} {xs : List Int} (h : Rd w B (.slice (some ⟨g, 0, none⟩) n cap) xs) (q c : Nat) (o m : Nat) (hq : q ≤ xs.length) (ho : q < xs.length → o = q) (hm : m = xs.length - q) :
    SrcV w (.slice (some ⟨g, o, none⟩) m c) (xs.drop q) := by
  refine .inr ⟨⟨g, o, none⟩, c, by rw [List.length_drop, hm], fun j hj => ?_⟩
  have hj' : j < xs.length - q := by simpa using hj
  obtain rfl := ho (by omega)
  rw [addr_addV, h.at.2.2.2.2.1 (o + j) (by omega)]
  simp
theorem srcV_take {w : World} {B g n cap : Nat} {xs : List Int} (h : Rd w B (.slice (some ⟨g, 0, none⟩) n cap) xs) (q c : Nat) (hq : q ≤ xs.length) : SrcV w (.slice (some ⟨g, 0, none⟩) q c) (xs.take q) := by
  refine .inr ⟨⟨g, 0, none⟩, c, by rw [List.length_take, Nat.min_eq_left hq], fun j hj => ?_⟩
  have hj' : j < q := by rw [List.length_take] at hj; omega
  rw [addr_addV, Nat.zero_add, h.at.2.2.2.2.1 j (by omega)]
  simp

theorem rd_emptyV (w : World) : Rd (w.alloc (.cells #[] 3)) w.heap.size (.slice (some ⟨w.heap.size, 0, none⟩) 0 0) [] := by
  have := World.ownsRow_lit (e := 3) (size := 1) (base := w.heap.size) w #[] 0 (Nat.le_refl _) (by unfold maxLen; omega) rfl
  exact this

/-- A number laid into an increasing list. -/
theorem putv_rise (xs : List Int) (x : Int) (k : Nat) (hk : k ≤ xs.length) (hs : xs.Pairwise (· < ·)) (h1 : ∀ j (hj : j < xs.length), j < k → xs[j] < x) (h2 : ∀ (h : k < xs.length), x < xs[k]) :
    (xs.take k ++ [x] ++ xs.drop k).Pairwise (· < ·) ∧ ∀ z, z ∈ xs.take k ++ [x] ++ xs.drop k ↔ z ∈ xs ∨ z = x := by
  have hs' : (xs.take k ++ xs.drop k).Pairwise (· < ·) := by rw [List.take_append_drop]; exact hs
  rw [List.pairwise_append] at hs'
  obtain ⟨ha, hb, hc⟩ := hs'
  have hx : ∀ a ∈ xs.take k, a < x := by
    intro a ha
    obtain ⟨j, hj, rfl⟩ := List.getElem_of_mem ha
    have hj' : j < k ∧ j < xs.length := by simp at hj; omega
    rw [List.getElem_take]
    exact h1 j hj'.2 hj'.1
  have hy : ∀ a ∈ xs.drop k, x < a := by
    intro a ha
    have hlt : k < xs.length := by
      have := List.length_pos_of_mem ha
      simp at this
      omega
    rw [drop_cons xs k hlt] at ha hb
    rw [List.pairwise_cons] at hb
    have h3 := h2 hlt
    rcases List.mem_cons.1 ha with rfl | ha
    · exact h3
    · have := hb.1 a ha; omega
  constructor
  · rw [List.append_assoc, List.pairwise_append]
    refine ⟨ha, ?_, ?_⟩
    · rw [List.singleton_append, List.pairwise_cons]
      exact ⟨hy, hb⟩
    · intro a ha2 b hb2
      rw [List.singleton_append, List.mem_cons] at hb2
      rcases hb2 with rfl | hb2
      · exact hx a ha2
      · exact hc a ha2 b hb2
  · intro z
    have : z ∈ xs ↔ z ∈ xs.take k ∨ z ∈ xs.drop k := by rw [← List.mem_append, List.take_append_drop]
    rw [this]
    simp only [List.mem_append, List.mem_singleton]
    constructor
    · rintro ((h | h) | h) <;> simp [h]
    · rintro ((h | h) | h) <;> simp [h]

theorem putv_there (xs : List Int) (x : Int) (k : Nat) (hk : k < xs.length) (he : xs[k] = x) : ∀ z, z ∈ xs ↔ z ∈ xs ∨ z = x := fun z => by
  constructor
  · exact .inl
  · rintro (h | rfl)
    · exact h
    · rw [← he]; exact List.getElem_mem hk

set_option maxHeartbeats 1000000 in
theorem l1PutV_any (v : Value) (xs : List Int) (x : Int) (B : Nat) (w : World) (h : Rd w B v xs) (hB : B ≤ w.heap.size) (hl : xs.length ≤ 1000000) (hs : xs.Pairwise (· < ·)) :
    Calls Try.prog 95 #[v, .int .i64 x] w fun e w' => ∃ u, e = .returned u ∧ ∃ ys, Rd w' B u ys ∧ ys.Pairwise (· < ·) ∧ (∀ z, z ∈ ys ↔ z ∈ xs ∨ z = x) ∧ Below w.heap.size w w' := by
  have H := Lib.hid h
  have HS := Lib.hid hs
  rcases h.cases with ⟨rfl, rfl⟩ | ⟨g, cap, rfl, hg, hgl, hoc, hcm, hoc2, hof⟩
  · have HP := Lib.hid (putv_rise [] x 0 (by simp) List.Pairwise.nil (fun j hj => by simp at hj) (fun h => by simp at h))
    clear h hs
    go_enter Try.func95, Try.ntmps95
    go_wp2
    refine wp_loop_rounds 1 ?_
    rw [rounds_succ]
    go_wp2_with (first | (at_builtin; refine wpList_appV rfl (.tmp 34) (.tmp 37) rfl w.heap.size _ _ [] [] rfl rfl (rd_emptyV w) (.inl ⟨rfl, rfl⟩) (by simp) (by simp) ?_; intro v1 w1 hr1 hg1 hb1; have R1 := Lib.hid hr1; have B1 := Lib.hid (((Below.refl w.heap.size w).alloc (Nat.le_refl _) (.cells #[] 3)).trans hb1); have Z1 := B1.out.size; clear hr1 hg1 hb1) | (at_builtin; refine wpList_appR rfl (.tmp 39) (.tmp 41) rfl w.heap.size w.heap.size _ _ [] [x] rfl rfl (R1.out.alloc _) (Rd.litB _ _ _ Z1) (by simp) (by simp; omega) ?_; intro v2 w2 hr2 hg2 hb2; have R2 := Lib.hid hr2; have B2 := Lib.hid ((B1.out.alloc Z1 _).trans hb2); have Z2 := B2.out.size; clear hr2 hg2 hb2) | (at_builtin; refine wpList_appV rfl (.tmp 43) (.tmp 46) rfl w.heap.size _ _ [x] [] rfl rfl R2.out (.inl ⟨rfl, rfl⟩) (by simp) Z2 ?_; intro v3 w3 hr3 hg3 hb3; have R3 := Lib.hid hr3; have B3 := Lib.hid (B2.out.trans hb3); clear hr3 hg3 hb3))
    go_ret
    exact ⟨_, rfl, [x], R3.out.mono hB, by simp, by simp, B3.out⟩
  · have HC := Lib.hid hoc2
    clear hoc2 hof h hs
    go_enter Try.func95, Try.ntmps95
    go_wp2
    go_loop [5] (fun j => ∃ q : Nat, q ≤ xs.length ∧ j = .int .i64 q ∧ Hid (∀ t (ht : t < xs.length), t < q → xs[t] < x)) (fun j => xs.length - (intOf j).toNat)
    case atStart => exact ⟨0, Nat.zero_le _, rfl, Lib.hid (fun t ht h => by omega)⟩
    case round =>
      obtain ⟨q, hq, rfl, HQ⟩ := hrel
      by_cases hq1 : q < xs.length
      · have hcq := HC.out q hq1
        by_cases hle : xs[q] < x
        · go_wp2
          go_round
          case rel => exact ⟨q + 1, by omega, by go_num, Lib.hid (fun t ht h => by by_cases e : t = q; (subst e; exact hle); exact HQ.out t ht (by omega))⟩
          case measure => simp [intOf]; omega
        · have hle2 : x ≤ xs[q] := by omega
          by_cases he : xs[q] = x
          · have hbq : (xs[q] == x) = true := beq_yes he
            have HM := Lib.hid (putv_there xs x q hq1 he)
            clear hle he
            go_wp2
            go_ret
            exact ⟨_, rfl, xs, H.out, HS.out, HM.out, Below.refl _ _⟩
          · have hbq : (xs[q] == x) = false := beq_no he
            have HP := Lib.hid (putv_rise xs x q hq HS.out HQ.out (fun _ => by omega))
            have hqc : q < cap := by omega
            have hqc2 : q ≤ cap := by omega
            clear hle he
            go_wp2_with (first | (at_builtin; refine wpList_appV rfl (.tmp 34) (.tmp 37) rfl w.heap.size _ _ [] (xs.take q) rfl rfl (rd_emptyV w) (srcV_take (H.out.alloc _) q _ hq) (by simp; omega) (by simp) ?_; intro v1 w1 hr1 hg1 hb1; have R1 := Lib.hid hr1; have B1 := Lib.hid (((Below.refl w.heap.size w).alloc (Nat.le_refl _) (.cells #[] 3)).trans hb1); have Z1 := B1.out.size; clear hr1 hg1 hb1) | (at_builtin; refine wpList_appR rfl (.tmp 39) (.tmp 41) rfl w.heap.size w.heap.size _ _ ([] ++ xs.take q) [x] rfl rfl (R1.out.alloc _) (Rd.litB _ _ _ Z1) (by simp; omega) (by simp; omega) ?_; intro v2 w2 hr2 hg2 hb2; have R2 := Lib.hid hr2; have B2 := Lib.hid ((B1.out.alloc Z1 _).trans hb2); have Z2 := B2.out.size; clear hr2 hg2 hb2) | (at_builtin; refine wpList_appV rfl (.tmp 43) (.tmp 46) rfl w.heap.size _ _ ([] ++ xs.take q ++ [x]) (xs.drop q) rfl rfl R2.out (srcV_drop (H.out.keep B2.out) q _ _ _ hq (fun h => by first | rfl | omega) (by omega)) (by simp; omega) Z2 ?_; intro v3 w3 hr3 hg3 hb3; have R3 := Lib.hid hr3; have B3 := Lib.hid (B2.out.trans hb3); clear hr3 hg3 hb3))
            go_ret
            exact ⟨_, rfl, _, R3.out.mono hB, HP.out.1, HP.out.2, B3.out⟩
      · obtain rfl : q = xs.length := by omega
        have HP := Lib.hid (putv_rise xs x xs.length (Nat.le_refl _) HS.out HQ.out (fun h => absurd h (Nat.lt_irrefl _)))
        have hqc2 : xs.length ≤ cap := by omega
        by_cases hcl : xs.length < cap
        all_goals
          go_wp2_with (first | (at_builtin; refine wpList_appV rfl (.tmp 34) (.tmp 37) rfl w.heap.size _ _ [] (xs.take xs.length) rfl rfl (rd_emptyV w) (srcV_take (H.out.alloc _) xs.length _ (Nat.le_refl _)) (by simp; omega) (by simp) ?_; intro v1 w1 hr1 hg1 hb1; have R1 := Lib.hid hr1; have B1 := Lib.hid (((Below.refl w.heap.size w).alloc (Nat.le_refl _) (.cells #[] 3)).trans hb1); have Z1 := B1.out.size; clear hr1 hg1 hb1) | (at_builtin; refine wpList_appR rfl (.tmp 39) (.tmp 41) rfl w.heap.size w.heap.size _ _ ([] ++ xs.take xs.length) [x] rfl rfl (R1.out.alloc _) (Rd.litB _ _ _ Z1) (by simp; omega) (by simp; omega) ?_; intro v2 w2 hr2 hg2 hb2; have R2 := Lib.hid hr2; have B2 := Lib.hid ((B1.out.alloc Z1 _).trans hb2); have Z2 := B2.out.size; clear hr2 hg2 hb2) | (at_builtin; refine wpList_appV rfl (.tmp 43) (.tmp 46) rfl w.heap.size _ _ ([] ++ xs.take xs.length ++ [x]) (xs.drop xs.length) rfl rfl R2.out (srcV_drop (H.out.keep B2.out) xs.length _ _ _ (Nat.le_refl _) (fun h => by first | rfl | omega) (by omega)) (by simp; omega) Z2 ?_; intro v3 w3 hr3 hg3 hb3; have R3 := Lib.hid hr3; have B3 := Lib.hid (B2.out.trans hb3); clear hr3 hg3 hb3))
          go_ret
          exact ⟨_, rfl, _, R3.out.mono hB, HP.out.1, HP.out.2, B3.out⟩

end Go.Proofs.Ytnniiobiedfmoaa

/- from XVD -/
namespace Go.Proofs.Ytnniiobiedfmoaa
open Go.RowKit
set_option linter.unusedVariables false
set_option linter.unusedSimpArgs false
set_option maxRecDepth 100000

/-- The search's record: the base, the power, what has been found. -/
def Srch (w : World) (gw b p : Nat) (v : Value) : Prop := w.heap[gw]? = some (.cells #[.int .i64 (b : Int), .int .i64 (p : Int), v] 79 (0, 0))
theorem Srch.lt {w : World} {gw b p : Nat} {v : Value} (h : Srch w gw b p v) : gw < w.heap.size := (Array.getElem?_eq_some_iff.1 h).1
theorem Srch.c0 {w : World} {gw b p : Nat} {v : Value} (h : Srch w gw b p v) : w.cell? ⟨gw, 0, none⟩ = some (.int .i64 (b : Int)) := by rw [cell_of_row w gw 0 _ _ _ h]; rfl
theorem Srch.c1 {w : World} {gw b p : Nat} {v : Value} (h : Srch w gw b p v) : w.cell? ⟨gw, 1, none⟩ = some (.int .i64 (p : Int)) := by rw [cell_of_row w gw 1 _ _ _ h]; rfl
theorem Srch.c2 {w : World} {gw b p : Nat} {v : Value} (h : Srch w gw b p v) : w.cell? ⟨gw, 2, none⟩ = some v := by rw [cell_of_row w gw 2 _ _ _ h]; rfl
theorem Srch.f {w : World} {gw b p : Nat} {v : Value} (h : Srch w gw b p v) (j : Nat) : w.frozen? ⟨gw, j, none⟩ = false := by
  unfold Srch at h
  simp [World.frozen?, h]
theorem Srch.keep {w w' : World} {gw b p : Nat} {v : Value} (h : Srch w gw b p v) (hb : Below w.heap.size w w') : Srch w' gw b p v := by
  unfold Srch at h ⊢
  rw [hb.block gw (Array.getElem?_eq_some_iff.1 h).1]
  exact h
theorem Srch.drew {w : World} {gw b p : Nat} {v : Value} (h : Srch w gw b p v) : Srch w.drew gw b p v := h
theorem Srch.set {w : World} {gw b p : Nat} {v : Value} (h : Srch w gw b p v) (u : Value) : Srch (w.setCell ⟨gw, 2, none⟩ u) gw b p u := by
  unfold Srch at h ⊢
  rw [heap_setCell_same w gw 2 _ _ u h]
  rfl
theorem Srch.other {w : World} {gw b p g j : Nat} {v u : Value} (h : Srch w gw b p v) (hne : gw ≠ g) : Srch (w.setCell ⟨g, j, none⟩ u) gw b p v := by
  unfold Srch at h ⊢
  rw [Below.heap_setCell w ⟨g, j, none⟩ u gw hne]
  exact h

theorem Srch.apart {w : World} {gw b p B : Nat} {x u : Value} {ys : List Int} (h : Srch w gw b p x) (hr : Rd w B u ys) : u.ownBlock ≠ some gw := by
  intro e
  rcases hr.2 with ⟨rfl, _⟩ | ⟨g, cap, cur, rfl, _, hh, _⟩
  · cases e
  · have e2 : g = gw := by simpa [Value.ownBlock] using e
    subst e2
    unfold Srch at h
    rw [h] at hh
    simp at hh
theorem gw_rd {w w' : World} {gw b p B : Nat} {x u : Value} {ys : List Int} (h : Srch w gw b p x) (hr : Rd w B u ys) (hg : w.grownBy w' (some gw)) : Rd w' B u ys := hr.grown hg (.inr (h.apart hr))

/-- Nothing that was there has changed but the record. -/
theorem gw_below {w w1 w2 : World} {gw : Nat} (h : w.grownBy w1 (some gw)) (hb : Below w1.heap.size w1 w2) : w.grownBy w2 (some gw) :=
  ⟨hb.os.trans h.os, hb.tape.trans h.tape, hb.output.trans h.output, Nat.le_trans h.size hb.size, fun i hi hne => (hb.block i (Nat.lt_of_lt_of_le hi h.size)).trans (h.block i hi hne)⟩
theorem gw_set {w w1 : World} {gw : Nat} (h : w.grownBy w1 (some gw)) (j : Nat) (u : Value) : w.grownBy (w1.setCell ⟨gw, j, none⟩ u) (some gw) := by
  have hb := (Below.refl gw w1).setCell (p := ⟨gw, j, none⟩) (Nat.le_refl _) u
  refine ⟨hb.os.trans h.os, hb.tape.trans h.tape, hb.output.trans h.output, Nat.le_trans h.size hb.size, fun i hi hne => ?_⟩
  rw [Below.heap_setCell w1 ⟨gw, j, none⟩ u i (fun e => hne (by rw [e]))]
  exact h.block i hi hne
theorem gw_refl (w : World) (gw : Nat) : w.grownBy w (some gw) := World.grownBy.refl _ _
theorem gw_below' {w w1 : World} {gw B : Nat} (h : w.grownBy w1 (some gw)) (hB : B ≤ gw) (hB2 : B ≤ w.heap.size) : Below B w w1 :=
  (Below.refl _ _).grown h hB2 (fun k hk => by simp at hk; omega)

theorem cntF_append (xs : List Int) : ∀ (ys zs : List Int), cntF (xs ++ ys) zs = cntF ys (cntF xs zs) := by
  induction xs with
  | nil => intro ys zs; rfl
  | cons x xs ih => intro ys zs; show cntF (xs ++ ys) (bump zs x) = _; rw [ih]; rfl
theorem cnt_snoc (b : Nat) (ds : List Nat) (d : Nat) : cnt (b : Int) (ints3 (ds ++ [d])) = bump (cnt (b : Int) (ints3 ds)) (d : Int) := by
  unfold cnt ints3
  rw [List.map_append, cntF_append]
  rfl
theorem psn_snoc (p : Nat) (ds : List Nat) (d : Nat) : psn p (ds ++ [d]) = psn p ds + d ^ p := by
  unfold psn
  simp
theorem psn_append (p : Nat) (ds es : List Nat) : psn p (ds ++ es) = psn p ds + psn p es := by
  unfold psn
  simp
theorem psn_le {p : Nat} (hp : p ≤ 6) : ∀ (ds : List Nat), (∀ d ∈ ds, d ≤ 9) → psn p ds ≤ ds.length * 531441
  | [], _ => by show 0 ≤ _; omega
  | d :: ds, h => by
    rw [psn_cons, List.length_cons, Nat.add_mul, Nat.one_mul]
    have h1 := psn_le hp ds (fun x hx => h x (by simp [hx]))
    have h2 : d ^ p ≤ 531441 := by
      have h1 := Nat.pow_le_pow_left (h d (by simp)) p
      have h2 := Nat.pow_le_pow_right (show 0 < 9 by omega) hp
      have h3 : 9 ^ 6 = 531441 := by decide
      omega
    omega
theorem ints_len3 (ds : List Nat) : (ints3 ds).length = ds.length := by simp [ints3]
theorem cnt_bd (b : Nat) : ∀ (xs ys : List Int) (m : Int), (∀ y ∈ ys, 0 ≤ y ∧ y ≤ m) → 0 ≤ m → ∀ y ∈ cntF xs ys, 0 ≤ y ∧ y ≤ m + xs.length
  | [], ys, m, h, hm => by intro y hy; have := h y hy; simp; omega
  | x :: xs, ys, m, h, hm => by
    intro y hy
    have := cnt_bd b xs (bump ys x) (m + 1) (bump_bd ys x m h hm) (by omega) y hy
    simp
    omega

/-- What is found from digits already taken is a number that is its own power sum. -/
theorem fnd_own {b p n m : Nat} {ds : List Nat} (hb : 2 ≤ b) (hb' : b ≤ 16) (hp : 1 ≤ p) (hp' : p ≤ 8) (hds : ∀ d ∈ ds, d < b) (hm : m < b) {z : Int} (h : Fnd b p n m (psn p ds) (cnt (b : Int) (ints3 ds)) z) : z ∈ ownL b p := by
  obtain ⟨es, h1, h2, h3, h4⟩ := h
  have h5 : cnt (b : Int) (dgs (b : Int) z) = cnt (b : Int) (ints3 (ds ++ es)) := by
    rw [h4]
    unfold cnt ints3
    rw [List.map_append, cntF_append]
  have hes : ∀ d ∈ es, d < b := fun d hd => by have := ((desc_iff es m).1 h2).2 d hd; omega
  rw [← psn_append] at h3
  subst h3
  have hall : ∀ x ∈ ints3 (ds ++ es), 0 ≤ x ∧ x < (b : Int) := fun x hx => by
    obtain ⟨d, hd, rfl⟩ := List.mem_map.1 hx
    rcases List.mem_append.1 hd with hd | hd
    · have := hds d hd; omega
    · have := hes d hd; omega
  have hperm := cnt_perm (dgs_allB hb) hall h5
  rw [ownL_mem hb hb' hp hp']
  refine ⟨psn p (ds ++ es), rfl, ?_⟩
  rw [← psl_dgs hb hp, psl_perm p hperm, psl_ints]
theorem rise_len {xs ys : List Int} (hx : xs.Pairwise (· < ·)) (hy : ys.Pairwise (· < ·)) (h : ∀ z ∈ xs, z ∈ ys) : xs.length ≤ ys.length := by
  have e : xs = ys.filter (fun z => decide (z ∈ xs)) := rise_unique hx (hy.sublist List.filter_sublist) (fun z => by
    rw [List.mem_filter, decide_eq_true_eq]
    exact ⟨fun hz => ⟨h z hz, hz⟩, fun hz => hz.2⟩)
  rw [e]
  exact List.length_filter_le _ _

set_option maxHeartbeats 400000 in
theorem try_leaf (gw b p gc cc B : Nat) (ds : List Nat) (m : Int) (v : Value) (fs : List Int) (w : World) (hb : 2 ≤ b) (hb' : b ≤ 10) (hp : 1 ≤ p) (hp' : p ≤ 6) (hds : ∀ d ∈ ds, d < b) (hdl : ds.length ≤ 8)
    (hS : Srch w gw b p v) (hF : Rd w B v fs) (hR : fs.Pairwise (· < ·)) (hO : ∀ z ∈ fs, z ∈ ownL b p) (hC : Rd w B (.slice (some ⟨gc, 0, none⟩) b cc) (cnt (b : Int) (ints3 ds))) (hB : B ≤ w.heap.size) :
    Calls Try.prog 75 #[.pointer (some ⟨gw, 0, none⟩), .int .i64 0, .int .i64 m, .int .i64 ((psn p ds : Nat) : Int), .slice (some ⟨gc, 0, none⟩) b cc] w fun e w' => e = .returned (.tuple #[]) ∧
      ∃ v' fs', Srch w' gw b p v' ∧ Rd w' B v' fs' ∧ fs'.Pairwise (· < ·) ∧ (∀ z, z ∈ fs' ↔ z ∈ fs ∨ Fnd b p 0 0 (psn p ds) (cnt (b : Int) (ints3 ds)) z) ∧ w.grownBy w' (some gw) := by
  have hsm := psn_le (p := p) hp' ds (fun d hd => by have := hds d hd; omega)
  have hfl : fs.length ≤ 100000 := Nat.le_trans (rise_len hR (cano_rise _) hO) (ownL_len hb hb' hp hp')
  have HFS := Lib.hid hS
  have HFF := Lib.hid hF
  have HFR := Lib.hid hR
  have HCC := Lib.hid hC
  have hsX : psn p ds ≤ 1000000000000 := by omega
  have hFz := Lib.hid (fun z => fnd_zero (b := b) (p := p) (m := 0) (s := psn p ds) (cs := cnt (b : Int) (ints3 ds)) (x := z))
  have HDA := Lib.hid (dgs_all (b : Int) ((psn p ds : Nat) : Int) (by omega) (by omega))
  have HDL := Lib.hid (dgs_len40 (b : Int) ((psn p ds : Nat) : Int) (by omega) (by omega) (by omega))
  have HCL := Lib.hid (show (cnt (b : Int) (ints3 ds)).length ≤ 2000000 by rw [cnt_len]; omega)
  have HCL2 := Lib.hid (show (cnt (b : Int) (dgs (b : Int) ((psn p ds : Nat) : Int))).length ≤ 2000000 by rw [cnt_len]; omega)
  obtain ⟨S, hSS⟩ : ∃ S, S = psn p ds := ⟨_, rfl⟩
  obtain ⟨cs, hcs⟩ : ∃ cs, cs = cnt (b : Int) (ints3 ds) := ⟨_, rfl⟩
  obtain ⟨es, hes⟩ : ∃ es, es = cnt (b : Int) (dgs (b : Int) (S : Int)) := ⟨_, rfl⟩
  rw [← hSS] at hFz HDA HDL hsX HCL2 ⊢
  rw [← hcs] at hFz HCC HCL ⊢
  rw [← hes] at hFz HCL2
  have hSi : (S : Int) ≤ 1000000000000 := by omega
  have hc0 := (hS.drew).c0
  have HES := Lib.hid hes
  have HB0 := Lib.hid (show Below w.heap.size w w.drew from (Below.refl _ _).drew)
  clear hS hF hR hO hC hSS hcs hes hsm hds
  cases hq : decide (es = cs)
  · have hne := of_decide_eq_false hq
    have HNE := Lib.hid (show ∀ z, ¬ Fnd b p 0 0 S cs z from fun z h => hne ((hFz.out z).1 h).2)
    clear hne
    go_enter Try.func75, Try.ntmps75
    go_wp2
    go_region_held3 (fun w' => w'.cell? ⟨gw, 0, none⟩ = some (.int .i64 (b : Int))) (first | exact hc0 | exact hc1 | exact hc2 | exact hc3) (first
      | (go_at_call 94; refine (dgOf_any (S : Int) (b : Int) _ (by omega) hSi (by omega) (by omega)).mono ?_; rintro e w1 ⟨u1, rfl, hr1, hb1⟩; have R1 := Lib.hid hr1; have B1 := Lib.hid (Below.step HB0.out HB0.out.size hb1); have hc1 := (HFS.out.keep B1.out).c0; clear hr1 hb1)
      | (go_at_call 93; refine (dgCounts_any _ _ (b : Int) _ _ R1.out (by omega) (by omega) HDA.out (by have := HDL.out; omega)).mono ?_; rw [← HES.out]; rintro e w2 ⟨u2, rfl, hr2, hb2⟩; have R2 := Lib.hid hr2; have B2 := Lib.hid (Below.step B1.out B1.out.size hb2); have hc2 := (HFS.out.keep B2.out).c0; clear hr2 hb2)
      | (go_at_call 92; refine (l1Same_any _ _ es cs _ R2.out.sl (HCC.out.keep B2.out).sl HCL2.out HCL.out).mono ?_; rw [hq]; rintro e w3 ⟨rfl, hb3⟩; have B3 := Lib.hid (Below.step B2.out B2.out.size hb3); have hc3 := (HFS.out.keep B3.out).c0; clear hb3))
    go_wp2
    first
      | go_end0
      | (refine bodyPost_ret (results_none rfl _ _ _) rfl ?_)
    exact ⟨rfl, v, fs, HFS.out.keep B3.out, HFF.out.keep B3.out, HFR.out, fun z => ⟨fun h => .inl h, fun h => h.elim id (fun h => absurd h (HNE.out z))⟩, gw_below (gw_refl w gw) B3.out⟩
  · have he := of_decide_eq_true hq
    have HYE := Lib.hid (show ∀ z, Fnd b p 0 0 S cs z ↔ z = (S : Int) from fun z => (hFz.out z).trans ⟨fun h => h.1, fun h => ⟨h, he⟩⟩)
    clear he
    go_enter Try.func75, Try.ntmps75
    go_wp2
    go_region_held3 (fun w' => w'.cell? ⟨gw, 0, none⟩ = some (.int .i64 (b : Int))) (first | exact hc0 | exact hc1 | exact hc2 | exact hc3) (first
      | (go_at_call 94; refine (dgOf_any (S : Int) (b : Int) _ (by omega) hSi (by omega) (by omega)).mono ?_; rintro e w1 ⟨u1, rfl, hr1, hb1⟩; have R1 := Lib.hid hr1; have B1 := Lib.hid (Below.step HB0.out HB0.out.size hb1); have hc1 := (HFS.out.keep B1.out).c0; clear hr1 hb1)
      | (go_at_call 93; refine (dgCounts_any _ _ (b : Int) _ _ R1.out (by omega) (by omega) HDA.out (by have := HDL.out; omega)).mono ?_; rw [← HES.out]; rintro e w2 ⟨u2, rfl, hr2, hb2⟩; have R2 := Lib.hid hr2; have B2 := Lib.hid (Below.step B1.out B1.out.size hb2); have hc2 := (HFS.out.keep B2.out).c0; clear hr2 hb2)
      | (go_at_call 92; refine (l1Same_any _ _ es cs _ R2.out.sl (HCC.out.keep B2.out).sl HCL2.out HCL.out).mono ?_; rw [hq]; rintro e w3 ⟨rfl, hb3⟩; have B3 := Lib.hid (Below.step B2.out B2.out.size hb3); have hc3 := (HFS.out.keep B3.out).c0; clear hb3))
    have S3 := Lib.hid (HFS.out.keep B3.out)
    have F3 := Lib.hid (HFF.out.keep B3.out)
    have hcf := S3.out.c2
    have hgl := S3.out.lt
    have hB3 := Nat.le_trans hB B3.out.size
    clear hc0 hc1 hc2 hc3 R1 R2
    go_wp2_with fail
    refine (l1PutV_any _ fs (S : Int) B _ F3.out hB3 (by omega) HFR.out).mono ?_
    rintro e w4 ⟨u, rfl, ys, hry, hrp, hrm, hb4⟩
    have S4 := Lib.hid (S3.out.keep hb4)
    have RY := Lib.hid hry
    have RP := Lib.hid hrp
    have RM := Lib.hid hrm
    have B4 := Lib.hid (Below.step B3.out B3.out.size hb4)
    obtain ⟨a, c4, rfl⟩ := hry.sl.len
    have hf4 := S4.out.f 2
    have hc4 := S4.out.c2
    clear hry hrp hrm hb4
    go_wp2
    first
      | go_end0
      | (refine bodyPost_ret (results_none rfl _ _ _) rfl ?_)
    exact ⟨rfl, _, ys, S4.out.set _, gw_rd S4.out RY.out (gw_set (gw_refl _ gw) 2 _), RP.out, fun z => (RM.out z).trans (or_congr Iff.rfl (HYE.out z).symm), gw_set (gw_below (gw_refl w gw) B4.out) 2 _⟩

end Go.Proofs.Ytnniiobiedfmoaa

/- from XVE -/
namespace Go.Proofs.Ytnniiobiedfmoaa
open Go.RowKit
set_option linter.unusedVariables false
set_option linter.unusedSimpArgs false
set_option maxRecDepth 100000

theorem cnt_at (b : Nat) (ds : List Nat) (k : Nat) (hk : k < b) : (cnt (b : Int) (ints3 ds)).set k ((cnt (b : Int) (ints3 ds)).getD k 0 + 1) = cnt (b : Int) (ints3 (ds ++ [k])) := by
  rw [cnt_snoc]
  rfl

set_option maxHeartbeats 1000000 in
theorem try_any (gw b p B : Nat) (hb : 2 ≤ b) (hb' : b ≤ 10) (hp : 1 ≤ p) (hp' : p ≤ 6) : ∀ (n m gc cc : Nat) (ds : List Nat) (v : Value) (fs : List Int) (w : World), m < b → (∀ d ∈ ds, d < b) → ds.length + n ≤ 8 →
    Srch w gw b p v → Rd w B v fs → fs.Pairwise (· < ·) → (∀ z ∈ fs, z ∈ ownL b p) → Rd w B (.slice (some ⟨gc, 0, none⟩) b cc) (cnt (b : Int) (ints3 ds)) → B ≤ w.heap.size →
    Calls Try.prog 75 #[.pointer (some ⟨gw, 0, none⟩), .int .i64 (n : Int), .int .i64 (m : Int), .int .i64 ((psn p ds : Nat) : Int), .slice (some ⟨gc, 0, none⟩) b cc] w fun e w' => e = .returned (.tuple #[]) ∧
      ∃ v' fs', Srch w' gw b p v' ∧ Rd w' B v' fs' ∧ fs'.Pairwise (· < ·) ∧ (∀ z, z ∈ fs' ↔ z ∈ fs ∨ Fnd b p n m (psn p ds) (cnt (b : Int) (ints3 ds)) z) ∧ w.grownBy w' (some gw) := by
  intro n
  induction n with
  | zero =>
    intro m gc cc ds v fs w hm hds hdl hS hF hR hO hC hB
    refine (try_leaf gw b p gc cc B ds (m : Int) v fs w hb hb' hp hp' hds (by omega) hS hF hR hO hC hB).mono ?_
    rintro e w' ⟨rfl, v', fs', h1, h2, h3, h4, h5⟩
    exact ⟨rfl, v', fs', h1, h2, h3, fun z => (h4 z).trans (or_congr Iff.rfl (fnd_zero.trans fnd_zero.symm)), h5⟩
  | succ n ih =>
    intro m gc cc ds v fs w hm hds hdl hS hF hR hO hC hB
    have IH := Lib.hid ih
    have HS := Lib.hid hS
    have HF := Lib.hid hF
    have HR := Lib.hid hR
    have HO := Lib.hid hO
    have HC := Lib.hid hC
    have HDS := Lib.hid hds
    have hsm := psn_le (p := p) hp' ds (fun d hd => by have := hds d hd; omega)
    obtain ⟨N, hN⟩ : ∃ N, N = n + 1 := ⟨_, rfl⟩
    have hNi : (N : Int) - 1 = (n : Int) := by omega
    have hz : ((N : Int) == 0) = false := beq_no (by omega)
    have HFS := Lib.hid (show ∀ z, Fnd b p (n + 1) m (psn p ds) (cnt (b : Int) (ints3 ds)) z ↔ ∃ d, d < m + 1 ∧ Fnd b p n d (psn p (ds ++ [d])) (cnt (b : Int) (ints3 (ds ++ [d]))) z from fun z => by
      rw [fnd_succ]
      simp only [psn_snoc, cnt_snoc])
    rw [← hN] at HFS ⊢
    have hdn : ds.length + n + 1 ≤ 8 := by omega
    have HCB := Lib.hid (show ∀ y ∈ cnt (b : Int) (ints3 ds), 0 ≤ y ∧ y ≤ (0 : Int) + (ints3 ds).length from cnt_bd b (ints3 ds) _ 0 (fun y hy => by have := (List.mem_replicate.1 hy).2; omega) (by omega))
    have HCL := Lib.hid (show (cnt (b : Int) (ints3 ds)).length = b by rw [cnt_len]; rfl)
    have HCS := Lib.hid (cnt_at b ds)
    have HPS := Lib.hid (psn_snoc p ds)
    have HIL := Lib.hid (ints_len3 ds)
    obtain ⟨S, hSS⟩ : ∃ S, S = psn p ds := ⟨_, rfl⟩
    obtain ⟨cs, hcs⟩ : ∃ cs, cs = cnt (b : Int) (ints3 ds) := ⟨_, rfl⟩
    rw [← hSS] at hsm HPS HFS ⊢
    rw [← hcs] at HC HCB HCL HCS HFS ⊢
    clear hS hF hR hO hC hds ih hN hSS hcs hdl
    go_enter Try.func75, Try.ntmps75
    go_wp2
    go_loopw [10] (fun i wr => ∃ (k : Nat) (v' : Value) (fs' : List Int), k ≤ m + 1 ∧ i = .int .i64 (k : Int) ∧ Srch wr gw b p v' ∧ Rd wr B v' fs' ∧ fs'.Pairwise (· < ·) ∧ (∀ z ∈ fs', z ∈ ownL b p) ∧ Hid (∀ z, z ∈ fs' ↔ z ∈ fs ∨ ∃ d, d < k ∧ Fnd b p n d (psn p (ds ++ [d])) (cnt (b : Int) (ints3 (ds ++ [d]))) z) ∧ w.grownBy wr (some gw)) (fun i _ => m + 1 - (intOf i).toNat)
    case atStart => exact ⟨0, v, fs, Nat.zero_le _, rfl, HS.out, HF.out, HR.out, HO.out, Lib.hid (fun z => ⟨.inl, fun h => h.elim id (fun ⟨d, hd, _⟩ => absurd hd (Nat.not_lt_zero _))⟩), gw_refl w gw⟩
    case round =>
      obtain ⟨k, v', fs', hk, rfl, hS', hF', hR', hO', HM, hg⟩ := hrel
      have HSr := Lib.hid hS'
      have HFr := Lib.hid hF'
      have HRr := Lib.hid hR'
      have HOr := Lib.hid hO'
      have HG := Lib.hid hg
      have HCr := Lib.hid (gw_rd HS.out HC.out hg)
      have hBr := Nat.le_trans hB hg.size
      clear hS' hF' hR' hO' hg
      by_cases hlt : k < m + 1
      · have hkb : k < b := by omega
        go_wp2_with fail
        refine (l1Own_any _ cs _ B HCr.out (by rw [HCL.out]; omega)).mono ?_
        rintro e w1 ⟨u1, rfl, hr1, hb1⟩
        obtain ⟨g1, c1, rfl⟩ : ∃ g1 c1, u1 = .slice (some ⟨g1, 0, none⟩) b c1 := by
          rcases hr1.cases with ⟨_, hx⟩ | ⟨g1, c1, hu, _⟩
          · have := HCL.out; rw [hx] at this; simp at this; omega
          · rw [HCL.out] at hu; exact ⟨g1, c1, hu⟩
        have hkl : k < cs.length := by rw [HCL.out]; exact hkb
        have hcell := hr1.at.2.2.2.2.1 k hkl
        have hf1 := hr1.at.2.2.2.2.2 k
        have hg1 := hr1.at.2.1
        obtain ⟨y, hy⟩ : ∃ y, y = cs[k] := ⟨_, rfl⟩
        have hyb : 0 ≤ y ∧ y ≤ 8 := by have := HCB.out y (by rw [hy]; exact List.getElem_mem _); rw [HIL.out] at this; omega
        obtain ⟨hy0, hy1⟩ := hyb
        have HCK := Lib.hid (show cs.set k (y + 1) = cnt (b : Int) (ints3 (ds ++ [k])) by rw [← HCS.out k hkb, hy, List.getD_eq_getElem?_getD, List.getElem?_eq_getElem hkl]; rfl)
        rw [← hy] at hcell
        have S1 := Lib.hid (HSr.out.keep hb1)
        have hgne : gw ≠ g1 := fun e => (S1.out.apart hr1) (by rw [e]; rfl)
        have R2 := Lib.hid ((hr1.set k (y + 1)).1.mono hBr)
        rw [HCK.out] at R2
        have S2 := Lib.hid (S1.out.other (g := g1) (j := k) (u := .int .i64 (y + 1)) hgne)
        have B2 := Lib.hid (hb1.setCell (p := ⟨g1, k, none⟩) hg1 (.int .i64 (y + 1)))
        have F2 := Lib.hid (HFr.out.keep B2.out)
        have hcp := S2.out.c1
        have hB2 := Nat.le_trans hBr B2.out.size
        obtain ⟨u, hu⟩ : ∃ u, u = k ^ p := ⟨_, rfl⟩
        have hub : u ≤ 531441 := by
          rw [hu]
          have h1 := Nat.pow_le_pow_left (show k ≤ 9 by omega) p
          have h2 := Nat.pow_le_pow_right (show 0 < 9 by omega) hp'
          have h3 : 9 ^ 6 = 531441 := by decide
          omega
        obtain ⟨T, hT⟩ : ∃ T, T = psn p (ds ++ [k]) := ⟨_, rfl⟩
        have hST : (S : Int) + (u : Int) = (T : Int) := by rw [hT, HPS.out, hu]; push_cast; rfl
        have HPW := Lib.hid (show ∀ w' : World, Calls Try.prog 72 #[.int .i64 (k : Int), .int .i64 (p : Int)] w' fun e w'' => e = .returned (.int .i64 (u : Int)) ∧ w'' = w' from fun w' => by
          rw [hu]; exact (pwOf_any k p w' (by omega) (by omega)).mono (fun e w'' h => ⟨h.1, h.2.symm⟩))
        have HIH := Lib.hid (IH.out k g1 c1 (ds ++ [k]) v' fs' _ hkb (fun d hd => by
          rcases List.mem_append.1 hd with hd | hd
          · exact HDS.out d hd
          · rw [List.mem_singleton.1 hd]; exact hkb) (by simp; omega) S2.out F2.out HRr.out HOr.out R2.out hB2)
        rw [← hT] at HIH
        have HTT := Lib.hid hT
        have hSb : S ≤ 5000000 := by omega
        clear hr1 hb1 hy hu hT
        go_wp2_with (go_at_call 72; refine (HPW.out _).mono ?_; rintro e w3 ⟨rfl, rfl⟩)
        refine HIH.out.mono ?_
        rintro e w3 ⟨rfl, v3, fs3, hS3, hF3, hR3, hM3, hg3⟩
        have S3 := Lib.hid hS3
        have F3 := Lib.hid hF3
        have R3 := Lib.hid hR3
        have M3 := Lib.hid hM3
        have HGw := Lib.hid (grown_trans (gw_below HG.out B2.out) hg3)
        have O3 := Lib.hid (show ∀ z ∈ fs3, z ∈ ownL b p from fun z hz => by
          rcases (hM3 z).1 hz with h | h
          · exact HOr.out z h
          · rw [HTT.out] at h
            exact fnd_own hb (by omega) hp (by omega) (fun d hd => by
              rcases List.mem_append.1 hd with hd | hd
              · exact HDS.out d hd
              · rw [List.mem_singleton.1 hd]; exact hkb) hkb h)
        have HMN := Lib.hid (show ∀ z, z ∈ fs3 ↔ z ∈ fs ∨ ∃ d, d < k + 1 ∧ Fnd b p n d (psn p (ds ++ [d])) (cnt (b : Int) (ints3 (ds ++ [d]))) z from fun z => by
          rw [hM3 z, HM.out z, HTT.out]
          constructor
          · rintro ((h | ⟨d, hd, h⟩) | h)
            · exact .inl h
            · exact .inr ⟨d, by omega, h⟩
            · exact .inr ⟨k, by omega, h⟩
          · rintro (h | ⟨d, hd, h⟩)
            · exact .inl (.inl h)
            · by_cases e : d = k
              · subst e; exact .inr h
              · exact .inl (.inr ⟨d, by omega, h⟩))
        clear hS3 hF3 hR3 hM3 hg3
        go_wp2
        go_roundw
        case rel => exact ⟨k + 1, v3, fs3, by omega, by go_num, S3.out, F3.out, R3.out, O3.out, HMN, HGw.out⟩
        case measure => simp [intOf]; omega
      · obtain rfl : k = m + 1 := by omega
        go_wp2
        first
          | go_end0
          | (refine bodyPost_ret (results_none rfl _ _ _) rfl ?_)
        exact ⟨rfl, v', fs', HSr.out, HFr.out, HRr.out, fun z => (HM.out z).trans (or_congr Iff.rfl (HFS.out z).symm), HG.out⟩

end Go.Proofs.Ytnniiobiedfmoaa

/- from XVC -/
namespace Go.Proofs.Ytnniiobiedfmoaa
open Go.RowKit
set_option linter.unusedVariables false
set_option linter.unusedSimpArgs false
set_option maxRecDepth 100000

theorem grow_none (w : World) : Go.Sort.grow w #[] = w := by simp [Go.Sort.grow]

theorem compact_any (g n cap : Nat) (xs : List Int) (B : Nat) (w : World) (h : Rd w B (.slice (some ⟨g, 0, none⟩) n cap) xs) (hl : xs.length ≤ 2000000) :
    Calls Try.prog 91 #[.slice (some ⟨g, 0, none⟩) n cap] w fun e w' => e = .returned (.slice (some ⟨g, 0, none⟩) (Lib.compact xs).length cap) ∧ Rd w' B (.slice (some ⟨g, 0, none⟩) (Lib.compact xs).length cap) (Lib.compact xs) ∧ w.grownBy w' (some g) := by
  obtain ⟨rfl, _⟩ := h.at
  rcases h.2 with ⟨h1, _⟩ | ⟨g', cap', cur, hv, hg, hh, hn, hm, hc, ht⟩
  · simp at h1
  · simp only [Value.slice.injEq, Option.some.injEq, Addr.mk.injEq, and_true, true_and] at hv
    obtain ⟨rfl, rfl⟩ := hv
    have hle : (Lib.compact xs).length ≤ xs.length := by
      unfold Lib.compact Lib.compactUpTo
      rw [List.length_map]
      have := List.length_filter_le (Lib.keeps xs.toArray) (List.range xs.length)
      rwa [List.length_range] at this
    refine (Try.slices_Compact_int g 0 cap xs w (holds_of_blockI hh (by simpa using ht)) (by omega) hn).mono ?_
    rintro e w' ⟨rfl, q, rfl⟩
    obtain ⟨zz, hz⟩ : ∃ zz, zz = Lib.compact xs ++ List.replicate (xs.length - (Lib.compact xs).length) 0 := ⟨_, rfl⟩
    have hzl : zz.length = xs.length := by rw [hz]; simp; omega
    rw [← hz]
    have h3 := ownsRow_sortedI (w := w) (base := B) (n := q) (os := #[]) (ts := zz) hzl hg hh hn hm hc
    have h4 := grownBy_sortedI (w := w) (g := g) (n := q) (os := #[]) zz.toArray
    rw [grow_none] at h3 h4
    have h5 : Rd (Go.Sort.putRow (Value.int .i64) (Go.Sort.ahead w q) g 0 zz.toArray) B (.slice (some ⟨g, 0, none⟩) xs.length cap) zz := by
      unfold Rd
      rw [hzl]
      exact h3
    have h6 := h5.take3 (Lib.compact xs).length (by omega)
    have h7 : zz.take (Lib.compact xs).length = Lib.compact xs := by rw [hz, List.take_append_of_le_length (Nat.le_refl _), List.take_of_length_le (Nat.le_refl _)]
    rw [h7] at h6
    exact ⟨rfl, h6, h4⟩

theorem pow6 {x p : Nat} (hx : x ≤ 9) (hp : p ≤ 6) : x ^ p ≤ 531441 := by
  have h1 := Nat.pow_le_pow_left hx p
  have h2 := Nat.pow_le_pow_right (show 0 < 9 by omega) hp
  have h3 : 9 ^ 6 = 531441 := by decide
  omega

theorem ow_zero_yes {b p s m : Nat} (h : ps b p s = s) : ow b p 0 s m = [(s : Int)] := by
  have h0 : ow b p 0 s m = if ps b p s = s then [(s : Int)] else [] := rfl
  rw [h0, if_pos h]
theorem ow_zero_no {b p s m : Nat} (h : ps b p s ≠ s) : ow b p 0 s m = [] := by
  have h0 : ow b p 0 s m = if ps b p s = s then [(s : Int)] else [] := rfl
  rw [h0, if_neg h]

theorem ownWith_any (g c b p : Nat) (hb : 2 ≤ b) (hb' : b ≤ 10) (hp : 1 ≤ p) (hp' : p ≤ 6) : ∀ (n s m : Nat) (w : World), Tp w g b p → n ≤ 8 → m < b → s + n * 531441 ≤ 1000000000 →
    Calls Try.prog 90 #[.slice (some ⟨g, 0, none⟩) b c, .int .i64 (s : Int), .int .i64 (n : Int), .int .i64 (m : Int)] w fun e w' => ∃ u, e = .returned u ∧ Rd w' w.heap.size u (ow b p n s m) ∧ Below w.heap.size w w' := by
  intro n
  induction n with
  | zero =>
    intro s m w hT hn hm hs
    have HT := Lib.hid hT
    by_cases he : ps b p s = s
    · have HE := Lib.hid he
      have HO := Lib.hid (ow_zero_yes (m := m) he)
      have HS := Lib.hid (sumP_any g c b p s · · hb (by omega) hp (by omega) (by omega))
      rw [he] at HS
      have hz : ((s : Int) == (s : Int)) = true := beq_yes rfl
      clear hT he
      go_enter Try.func90, Try.ntmps90
      go_wp2_with (go_at_call 51; refine (HS.out _ HT.out).mono ?_; rintro e w1 ⟨rfl, hb1⟩; have HB1 := Lib.hid hb1; clear hb1)
      go_ret
      exact ⟨_, rfl, by rw [HO.out]; exact (Rd.litB _ _ _ HB1.out.size), HB1.out.alloc HB1.out.size _⟩
    · have HO := Lib.hid (ow_zero_no (m := m) he)
      have HS := Lib.hid (sumP_any g c b p s · · hb (by omega) hp (by omega) (by omega))
      obtain ⟨x, hx⟩ : ∃ x, x = ps b p s := ⟨_, rfl⟩
      rw [← hx] at HS he
      have hz : ((x : Int) == (s : Int)) = false := beq_no (by omega)
      clear hT he hx
      go_enter Try.func90, Try.ntmps90
      go_wp2_with (go_at_call 51; refine (HS.out _ HT.out).mono ?_; rintro e w1 ⟨rfl, hb1⟩; have HB1 := Lib.hid hb1; clear hb1)
      go_ret
      exact ⟨_, rfl, by rw [HO.out]; exact Rd.nil _ _, HB1.out⟩
  | succ n ih =>
    intro s m w hT hn hm hs
    have HT := Lib.hid hT
    have IH := Lib.hid ih
    obtain ⟨N, hN⟩ : ∃ N, N = n + 1 := ⟨_, rfl⟩
    have hNi : (N : Int) - 1 = (n : Int) := by omega
    have hz : ((N : Int) == 0) = false := beq_no (by omega)
    have HO := Lib.hid (ow_succ b p n s m)
    have hNn : n + 1 ≤ 8 := hn
    rw [← hN] at HO hs ⊢
    have hs2 : s + n * 531441 + 531441 ≤ 1000000000 := by rw [hN] at hs; omega
    clear hT ih hN hs hn
    go_enter Try.func90, Try.ntmps90
    go_wp2
    go_loopw [9, 22] (fun o i wr => ∃ k : Nat, k ≤ m + 1 ∧ i = .int .i64 (k : Int) ∧ Rd wr w.heap.size o (owTo b p n s k) ∧ Below w.heap.size w wr) (fun _ i _ => m + 1 - (intOf i).toNat)
    case atStart => exact ⟨0, Nat.zero_le _, rfl, Rd.nil _ _, Below.refl _ _⟩
    case round =>
      obtain ⟨k, hk, rfl, hr, hbl⟩ := hrel
      have HR := Lib.hid hr
      have HB := Lib.hid hbl
      have HTr := Lib.hid (HT.out.keep hbl)
      have hsz := hbl.size
      clear hr hbl
      by_cases hlt : k < m + 1
      · have hct := HTr.out.cell k (by omega)
        obtain ⟨u, hu⟩ : ∃ u, u = k ^ p := ⟨_, rfl⟩
        have hub : u ≤ 531441 := by rw [hu]; exact pow6 (by omega) hp'
        obtain ⟨t, ht⟩ : ∃ t, t = s + u := ⟨_, rfl⟩
        have hsu : (s : Int) + (u : Int) = (t : Int) := by omega
        have HST := Lib.hid (owTo_succ b p n s k)
        rw [← hu, ← ht] at HST
        have hl1 := owTo_len8 (b := b) (p := p) (s := s) (m := m) hNn (by omega) hk
        have hl2 := Nat.le_trans (ow_len b p n t k) (ct_bd (by omega) (show k ≤ 9 by omega))
        have HIH := Lib.hid (fun w' (h : Tp w' g b p) => IH.out t k w' h (by omega) (by omega) (by omega))
        obtain ⟨ys, hys⟩ : ∃ ys, ys = ow b p n t k := ⟨_, rfl⟩
        obtain ⟨xs, hxs⟩ : ∃ xs, xs = owTo b p n s k := ⟨_, rfl⟩
        rw [← hu] at hct
        rw [← hys] at hl2 HIH HST
        rw [← hxs] at hl1 HST HR
        clear hu ht hys hxs
        go_wp2_with fail
        refine (HIH.out _ HTr.out).mono ?_
        rintro e w1 ⟨v1, rfl, hr1, hb1⟩
        have HR1 := Lib.hid hr1
        have HRo := Lib.hid (HR.out.keep hb1)
        have HB1 := Lib.hid (Below.step HB.out hsz hb1)
        clear hr1 hb1
        go_wp2_with (at_builtin; refine wpList_appR rfl _ _ rfl w.heap.size _ _ _ xs ys rfl rfl HRo.out HR1.out (by omega) HB1.out.size ?_; intro v2 w2 hr2 hg2 hb2; have HR2 := Lib.hid hr2; have HB2 := Lib.hid (HB1.out.trans hb2); clear hr2 hg2 hb2)
        go_roundw
        case rel => exact ⟨k + 1, by omega, by go_num, by rw [HST.out]; exact HR2.out, HB2.out⟩
        case measure => simp [intOf]; omega
      · obtain rfl : k = m + 1 := by omega
        go_wp2
        go_ret
        exact ⟨_, rfl, by rw [HO.out]; exact HR.out, HB.out⟩

theorem ow_ne {b p : Nat} (hb : 2 ≤ b) (hb' : b ≤ 16) (hp : 1 ≤ p) (hp' : p ≤ 8) : ow b p (places b p) 0 (b - 1) ≠ [] := by
  intro h
  have := (mem_own hb hb' hp hp' 0).2 ⟨0, rfl, ps_zero b p⟩
  rw [h] at this
  simp at this

theorem ownP_any (g c b p : Nat) (w : World) (hT : Tp w g b p) (hb : 2 ≤ b) (hb' : b ≤ 10) (hp : 1 ≤ p) (hp' : p ≤ 6) :
    Calls Try.prog 74 #[.slice (some ⟨g, 0, none⟩) b c] w fun e w' => ∃ gu cu, e = .returned (.slice (some ⟨gu, 0, none⟩) (ownL b p).length cu) ∧ Rd w' w.heap.size (.slice (some ⟨gu, 0, none⟩) (ownL b p).length cu) (ownL b p) ∧ Below w.heap.size w w' := by
  have HT := Lib.hid hT
  have h1 := (ff_spec hb (by omega) hp (by omega)).1
  have h2 := places_bd hb hb' hp hp'
  have HFP := Lib.hid (show ∀ w' : World, Tp w' g b p → Calls Try.prog 57 #[.slice (some ⟨g, 0, none⟩) b c] w' fun e w'' => e = .returned (.int .i64 ((ff b p : Nat) : Int)) ∧ w'' = w' from fun w' h => (fallsP_any g c b p w' h hb (by omega) hp (by omega)).mono (fun e w'' h => ⟨h.1, h.2.symm⟩))
  obtain ⟨z, hz⟩ : ∃ z, z = ff b p := ⟨_, rfl⟩
  obtain ⟨K, hK⟩ : ∃ K, K = places b p := ⟨_, rfl⟩
  have hzK : (z : Int) - 1 = (K : Int) := by rw [hK, hz]; unfold places; omega
  have HOW := Lib.hid (fun w' h => ownWith_any g c b p hb hb' hp hp' K 0 (b - 1) w' h (by rw [hK]; exact h2) (by omega) (by rw [← hK] at h2; omega))
  have HNE := Lib.hid (ow_ne hb (show b ≤ 16 by omega) hp (show p ≤ 8 by omega))
  have HOL := Lib.hid (show ownL b p = Lib.compact (srt (ow b p K 0 (b - 1))) by rw [hK]; rfl)
  have hl := Nat.le_trans (ow_len b p K 0 (b - 1)) (ct_bd (by rw [hK]; exact h2) (show b - 1 ≤ 9 by omega))
  have hb1 : (b : Int) - 1 = ((b - 1 : Nat) : Int) := by omega
  rw [← hz] at HFP h1
  rw [← hK] at HNE h2
  obtain ⟨xs, hxs⟩ : ∃ xs, xs = ow b p K 0 (b - 1) := ⟨_, rfl⟩
  rw [← hxs] at HOW HNE HOL hl
  clear hT hz hK hxs
  go_enter Try.func74, Try.ntmps74
  go_wp2_with (go_at_call 57; refine (HFP.out _ HT.out).mono ?_; rintro e w1 ⟨rfl, rfl⟩)
  refine (HOW.out _ HT.out).mono ?_
  rintro e w1 ⟨u, rfl, hr, hb1'⟩
  obtain ⟨gu, cu, rfl⟩ : ∃ gu cu, u = .slice (some ⟨gu, 0, none⟩) xs.length cu := by
    rcases hr.cases with ⟨_, hx⟩ | ⟨gu, cu, hu, _⟩
    · exact absurd hx HNE.out
    · exact ⟨gu, cu, hu⟩
  have HR := Lib.hid hr
  have HB := Lib.hid hb1'
  have hgB := hr.at.2.1
  clear hr hb1'
  go_wp2_with fail
  refine (sort_any _ _ _ _ _ _ HR.out (by omega)).mono ?_
  rintro e w2 ⟨rfl, hr2, hg2⟩
  have HR2 := Lib.hid hr2
  have HB2 := Lib.hid (HB.out.trans (grown_below hg2 HB.out.size hgB))
  have HL2 := Lib.hid (srt_len xs)
  clear hr2 hg2
  go_wp2_with fail
  refine (compact_any _ _ _ _ _ _ HR2.out (by rw [HL2.out]; omega)).mono ?_
  rintro e w3 ⟨rfl, hr3, hg3⟩
  rw [← HOL.out] at hr3
  rw [← HOL.out]
  have HR3 := Lib.hid hr3
  have HB3 := Lib.hid (HB2.out.trans (grown_below hg3 HB2.out.size hgB))
  clear hr3 hg3
  go_wp2
  go_ret
  exact ⟨gu, cu, rfl, HR3.out, HB3.out⟩

end Go.Proofs.Ytnniiobiedfmoaa

/- from XVF -/
namespace Go.Proofs.Ytnniiobiedfmoaa
open Go.RowKit
set_option linter.unusedVariables false
set_option linter.unusedSimpArgs false
set_option maxRecDepth 100000

def OKO (b p : Int) : Bool := decide (Bas10 b ∧ Pow p 6)
def LF_OwnPowers (b p : Int) : List Int := if OKO b p = true then ownL b.toNat p.toNat else []
theorem oko_cases (b p : Int) : (OKO b p = true ∧ ∃ B P : Nat, b = (B : Int) ∧ p = (P : Int) ∧ 2 ≤ B ∧ B ≤ 10 ∧ 1 ≤ P ∧ P ≤ 6) ∨ OKO b p = false := by
  cases h : OKO b p
  · exact .inr rfl
  · obtain ⟨h2, h3⟩ := of_decide_eq_true h
    obtain ⟨h2a, h2b⟩ := h2
    obtain ⟨h3a, h3b⟩ := h3
    exact .inl ⟨rfl, b.toNat, p.toNat, by omega, by omega, by omega, by omega, by omega, by omega⟩
theorem LF_OwnPowers_len (b p : Int) : (LF_OwnPowers b p).length ≤ 2000000 := by
  unfold LF_OwnPowers
  rcases oko_cases b p with ⟨h, B, P, rfl, rfl, h1, h2, h3, h4⟩ | h
  · rw [if_pos h]
    have := ownL_len h1 h2 h3 h4
    show (ownL B P).length ≤ _
    omega
  · rw [h]; simp

/-- What is found with up to K digits are all numbers that are their own power sums. -/
theorem fnd_places {b p : Nat} (hb : 2 ≤ b) (hb' : b ≤ 16) (hp : 1 ≤ p) (hp' : p ≤ 8) (z : Int) : (∃ j, 1 ≤ j ∧ j < places b p + 1 ∧ Fnd b p j (b - 1) 0 (List.replicate b 0) z) ↔ z ∈ ownL b p := by
  rw [ownL_mem hb hb' hp hp']
  constructor
  · rintro ⟨j, _, _, h⟩
    obtain ⟨X, h1, h2, _⟩ := (fnd_all hb hp z).1 h
    exact ⟨X, h1, h2⟩
  · rintro ⟨X, rfl, hX⟩
    have h2 := (ff_spec hb hb' hp hp').1
    have hl := dgs_lenb (k := places b p) hb (by unfold places; omega) (own_lt hb hb' hp hp' hX)
    exact ⟨_, dgs_pos _ _, by omega, (fnd_all hb hp _).2 ⟨X, rfl, hX, rfl⟩⟩

theorem try_first (gw b p B : Nat) (hb : 2 ≤ b) (hb' : b ≤ 10) (hp : 1 ≤ p) (hp' : p ≤ 6) (n gc cc : Nat) (v : Value) (fs : List Int) (w : World) (hn : n ≤ 8)
    (hS : Srch w gw b p v) (hF : Rd w B v fs) (hR : fs.Pairwise (· < ·)) (hO : ∀ z ∈ fs, z ∈ ownL b p) (hC : Rd w B (.slice (some ⟨gc, 0, none⟩) b cc) (List.replicate b 0)) (hB : B ≤ w.heap.size) (c : Nat) (hc : c = b - 1) :
    Calls Try.prog 75 #[.pointer (some ⟨gw, 0, none⟩), .int .i64 (n : Int), .int .i64 (c : Int), .int .i64 0, .slice (some ⟨gc, 0, none⟩) b cc] w fun e w' => e = .returned (.tuple #[]) ∧
      ∃ v' fs', Srch w' gw b p v' ∧ Rd w' B v' fs' ∧ fs'.Pairwise (· < ·) ∧ (∀ z, z ∈ fs' ↔ z ∈ fs ∨ Fnd b p n (b - 1) 0 (List.replicate b 0) z) ∧ (∀ z ∈ fs', z ∈ ownL b p) ∧ w.grownBy w' (some gw) := by
  subst hc
  refine (try_any gw b p B hb hb' hp hp' n (b - 1) gc cc [] v fs w (by omega) (fun d hd => by simp at hd) (by simp; omega) hS hF hR hO hC hB).mono ?_
  rintro e w' ⟨rfl, v', fs', h1, h2, h3, h4, h5⟩
  refine ⟨rfl, v', fs', h1, h2, h3, h4, fun z hz => ?_, h5⟩
  rcases (h4 z).1 hz with h | h
  · exact hO z h
  · exact fnd_own hb (by omega) hp (by omega) (ds := []) (fun d hd => by simp at hd) (show b - 1 < b by omega) h

theorem spec_OwnPowers (b p : Int) (w : World) :
    Calls Try.prog 36 #[.int .i64 b, .int .i64 p] w fun e w' => ∃ u, e = .returned (.tuple #[u, .bool (OKO b p)]) ∧ Rd w' w.heap.size u (LF_OwnPowers b p) ∧ Below w.heap.size w w' := by
  rcases oko_cases b p with ⟨hok, B, P, rfl, rfl, h1, h2, h3, h4⟩ | hn
  · have HO := Lib.hid hok
    have HL := Lib.hid (show LF_OwnPowers (B : Int) (P : Int) = ownL B P by unfold LF_OwnPowers; rw [if_pos hok]; rfl)
    have a2 : decide (Pow (P : Int) 6) = true := decide_eq_true ⟨by omega, by omega⟩
    have m0 : (2 : Int) ≤ (B : Int) := by omega
    have m1 : (B : Int) ≤ 10 := by omega
    have hf2 := (ff_spec h1 (show B ≤ 16 by omega) h3 (show P ≤ 8 by omega)).1
    have hf3 := places_bd h1 h2 h3 h4
    have HFP := Lib.hid (fnd_places h1 (show B ≤ 16 by omega) h3 (show P ≤ 8 by omega))
    have HFL := Lib.hid (show ∀ w' : World, Calls Try.prog 59 #[.int .i64 (B : Int), .int .i64 (P : Int)] w' fun e w'' => e = .returned (.int .i64 ((ff B P : Nat) : Int)) ∧ w'' = w' from fun w' => (pwFalls_any B P w' h1 (by omega) h3 (by omega)).mono (fun e w'' h => ⟨h.1, h.2.symm⟩))
    obtain ⟨K, hK⟩ : ∃ K, K = places B P := ⟨_, rfl⟩
    obtain ⟨z, hz⟩ : ∃ z, z = ff B P := ⟨_, rfl⟩
    have hzK : z = K + 1 := by rw [hK, hz]; unfold places; omega
    rw [← hz] at HFL
    rw [← hK] at HFP hf3
    obtain ⟨c, hc⟩ : ∃ c, c = B - 1 := ⟨_, rfl⟩
    have hb1 : (B : Int) - 1 = (c : Int) := by omega
    have HCC := Lib.hid hc
    have HS0 := Lib.hid (show Srch (w.alloc (.cells #[.int .i64 (B : Int), .int .i64 (P : Int), .slice none 0 0] 79)) w.heap.size B P (.slice none 0 0) from heap_alloc_new w _)
    have HZK := Lib.hid hzK
    clear hok hK hz hc hzK hf2
    go_enter Try.func36, Try.ntmps36
    go_wp2_with (first | (go_at_call 68; refine (l1In_yes _ _ _ _ m0 m1).mono ?_; rintro e w1 ⟨rfl, rfl⟩) | (go_at_call 42; refine (pwPower_any _ _ _).mono ?_; rintro e w1 ⟨rfl, rfl⟩))
    go_loopw [7] (fun i wr => ∃ (k : Nat) (v : Value) (fs : List Int), 1 ≤ k ∧ k ≤ K + 1 ∧ i = .int .i64 (k : Int) ∧ Srch wr w.heap.size B P v ∧ Rd wr w.heap.size v fs ∧ fs.Pairwise (· < ·) ∧ (∀ z ∈ fs, z ∈ ownL B P) ∧ Hid (∀ z, z ∈ fs ↔ ∃ j, 1 ≤ j ∧ j < k ∧ Fnd B P j (B - 1) 0 (List.replicate B 0) z) ∧ Below w.heap.size w wr) (fun i _ => K + 1 - (intOf i).toNat)
    case atStart => exact ⟨1, _, [], by omega, by omega, rfl, HS0.out, Rd.nil _ _, List.Pairwise.nil, fun z hz => by simp at hz, Lib.hid (fun z => ⟨fun h => by simp at h, fun ⟨j, a1, a2, _⟩ => absurd a1 (by omega)⟩), alloc_below _ _⟩
    case round =>
      obtain ⟨k, v, fs, k1, kK, rfl, hS', hF', hR', hO', HM, hbl⟩ := hrel
      have HSr := Lib.hid hS'
      have HFr := Lib.hid hF'
      have HRr := Lib.hid hR'
      have HOr := Lib.hid hO'
      have HB := Lib.hid hbl
      have hsz := hbl.size
      clear hS' hF' hR' hO' hbl
      by_cases hlt : k < K + 1
      · have hkz : k < z := by have := HZK.out; omega
        go_wp2_with (first | (go_at_call 59; refine (HFL.out _).mono ?_; rintro e w1 ⟨rfl, rfl⟩) | (at_make; refine wpList_mkR rfl _ _ rfl .i64 .i64 _ _ B rfl rfl rfl rfl (by omega) ?_; intro w1 hr1 hg1 hb1; have R1 := Lib.hid (hr1.mono hsz); have B1 := Lib.hid (Below.step HB.out hsz hb1); have S1 := Lib.hid (HSr.out.keep hb1); have F1 := Lib.hid (HFr.out.keep hb1); clear hr1 hg1 hb1))
        refine (try_first _ B P w.heap.size h1 h2 h3 h4 k _ _ v fs _ (by omega) S1.out F1.out HRr.out HOr.out R1.out B1.out.size c HCC.out).mono ?_
        rintro e w3 ⟨rfl, v3, fs3, hS3, hF3, hR3, hM3, hO3, hg3⟩
        have S3 := Lib.hid hS3
        have F3 := Lib.hid hF3
        have R3 := Lib.hid hR3
        have O3 := Lib.hid hO3
        have HMN := Lib.hid (show ∀ z, z ∈ fs3 ↔ ∃ j, 1 ≤ j ∧ j < k + 1 ∧ Fnd B P j (B - 1) 0 (List.replicate B 0) z from fun z => by
          rw [hM3 z, HM.out z]
          constructor
          · rintro (⟨j, a1, a2, h⟩ | h)
            · exact ⟨j, a1, by omega, h⟩
            · exact ⟨k, k1, by omega, h⟩
          · rintro ⟨j, a1, a2, h⟩
            by_cases e : j = k
            · subst e; exact .inr h
            · exact .inl ⟨j, a1, by omega, h⟩)
        have B3 := Lib.hid (B1.out.trans (gw_below' hg3 (Nat.le_refl _) B1.out.size))
        clear hS3 hF3 hR3 hM3 hO3 hg3
        go_wp2
        go_roundw
        case rel => exact ⟨k + 1, v3, fs3, by omega, by omega, by go_num, S3.out, F3.out, R3.out, O3.out, HMN, B3.out⟩
        case measure => simp [intOf]; omega
      · obtain rfl : k = K + 1 := by omega
        have hkz : ¬ K + 1 < z := by have := HZK.out; omega
        have HE := Lib.hid (show fs = ownL B P from rise_unique HRr.out (cano_rise _) (fun z => (HM.out z).trans (HFP.out z)))
        have hcf := HSr.out.c2
        obtain ⟨a, c4, rfl⟩ := HFr.out.sl.len
        have hK2 : z = K + 1 := HZK.out
        have hzi : (z : Int) = (K : Int) + 1 := by omega
        clear hK2
        go_wp2_with (go_at_call 59; refine (HFL.out _).mono ?_; rintro e w1 ⟨rfl, rfl⟩)
        go_ret2
        exact ⟨_, by rw [HO.out]; rfl, by rw [HL.out, ← HE.out]; exact HFr.out, HB.out⟩
  · have HO := Lib.hid hn
    have HL := Lib.hid (show LF_OwnPowers b p = [] by unfold LF_OwnPowers; rw [hn]; rfl)
    have hnot := of_decide_eq_false hn
    by_cases hb : 2 ≤ b ∧ b ≤ 10
    · obtain ⟨m0, m1⟩ := hb
      have a2 : decide (Pow p 6) = false := decide_eq_false (fun h => hnot ⟨⟨m0, m1⟩, h⟩)
      clear hn hnot
      go_enter Try.func36, Try.ntmps36
      go_wp2_with (first | (go_at_call 68; refine (l1In_yes _ _ _ _ m0 m1).mono ?_; rintro e w1 ⟨rfl, rfl⟩) | (go_at_call 42; refine (pwPower_any _ _ _).mono ?_; rintro e w1 ⟨rfl, rfl⟩))
      go_ret2
      exact ⟨_, by rw [HO.out]; rfl, by rw [HL.out]; exact Rd.nil _ _, Below.refl _ _⟩
    · have H := Lib.hid (show b < 2 ∨ 10 < b by omega)
      clear hn hnot hb
      go_enter Try.func36, Try.ntmps36
      go_wp2_with (go_at_call 68; refine (l1In_no _ _ _ _ H.out).mono ?_; rintro e w1 ⟨rfl, rfl⟩)
      go_ret2
      exact ⟨_, by rw [HO.out]; rfl, by rw [HL.out]; exact Rd.nil _ _, Below.refl _ _⟩

theorem own_yes (B P : Nat) (w : World) (h1 : 2 ≤ B) (h2 : B ≤ 10) (h3 : 1 ≤ P) (h4 : P ≤ 6) :
    Calls Try.prog 35 #[.int .i64 (B : Int), .int .i64 (P : Int)] w fun e w' => ∃ gu cu, e = .returned (.tuple #[.slice (some ⟨gu, 0, none⟩) (ownL B P).length cu, .bool true]) ∧ Rd w' w.heap.size (.slice (some ⟨gu, 0, none⟩) (ownL B P).length cu) (ownL B P) ∧ Below w.heap.size w w' := by
  have a2 : decide (Bas10 (B : Int)) = true := decide_eq_true ⟨by omega, by omega⟩
  have a3 : decide (Pow (P : Int) 6) = true := decide_eq_true ⟨by omega, by omega⟩
  go_enter Try.func35, Try.ntmps35
  go_wp2_with (first | (go_at_call 65; refine (isSearchedBase_any _ _).mono ?_; rintro e w1 ⟨rfl, rfl⟩) | (go_at_call 49; refine (isPower_any _ _ _).mono ?_; rintro e w1 ⟨rfl, rfl⟩))
  refine (powersOf_any B P _ (by omega) (by omega) (by omega) (by omega)).mono ?_
  rintro e w1 ⟨g, c, rfl, hg, hT, hB⟩
  have HT := Lib.hid hT
  have HB := Lib.hid hB
  clear hg hT hB
  go_wp2_with fail
  refine (ownP_any g c B P _ HT.out h1 h2 h3 h4).mono ?_
  rintro e w2 ⟨gu, cu, rfl, hr, hb2⟩
  have HR := Lib.hid (hr.mono HB.out.size)
  have HB2 := Lib.hid (Below.step HB.out HB.out.size hb2)
  clear hr hb2
  go_wp2
  go_ret2
  exact ⟨gu, cu, rfl, HR.out, HB2.out⟩

theorem own_no (b p : Int) (w : World) (hn : OKO b p = false) :
    Calls Try.prog 35 #[.int .i64 b, .int .i64 p] w fun e w' => e = .returned (.tuple #[.slice none 0 0, .bool false]) ∧ w = w' := by
  have hnot := of_decide_eq_false hn
  by_cases hb : Bas10 b
  · have a2 : decide (Bas10 b) = true := decide_eq_true hb
    have a3 : decide (Pow p 6) = false := decide_eq_false (fun h => hnot ⟨hb, h⟩)
    clear hn hnot hb
    go_enter Try.func35, Try.ntmps35
    go_wp2_with (first | (go_at_call 65; refine (isSearchedBase_any _ _).mono ?_; rintro e w1 ⟨rfl, rfl⟩) | (go_at_call 49; refine (isPower_any _ _ _).mono ?_; rintro e w1 ⟨rfl, rfl⟩))
    go_ret2
    exact ⟨rfl, rfl⟩
  · have a2 : decide (Bas10 b) = false := decide_eq_false hb
    clear hn hnot hb
    go_enter Try.func35, Try.ntmps35
    go_wp2_with (go_at_call 65; refine (isSearchedBase_any _ _).mono ?_; rintro e w1 ⟨rfl, rfl⟩)
    go_ret2
    exact ⟨rfl, rfl⟩

theorem impl_OwnPowers (b p : Int) (w : World) :
    Calls Try.prog 35 #[.int .i64 b, .int .i64 p] w fun e w' => ∃ u, e = .returned (.tuple #[u, .bool (OKO b p)]) ∧ Rd w' w.heap.size u (LF_OwnPowers b p) ∧ Below w.heap.size w w' := by
  rcases oko_cases b p with ⟨hok, B, P, rfl, rfl, h1, h2, h3, h4⟩ | hn
  · have HL : LF_OwnPowers (B : Int) (P : Int) = ownL B P := by unfold LF_OwnPowers; rw [if_pos hok]; rfl
    refine (own_yes B P w h1 h2 h3 h4).mono ?_
    rintro e w' ⟨gu, cu, rfl, hr, hb⟩
    exact ⟨_, by rw [hok], by rw [HL]; exact hr, hb⟩
  · have HL : LF_OwnPowers b p = [] := by unfold LF_OwnPowers; rw [hn]; rfl
    refine (own_no b p w hn).mono ?_
    rintro e w' ⟨rfl, rfl⟩
    exact ⟨_, by rw [hn], by rw [HL]; exact Rd.nil _ _, Below.refl _ _⟩

end Go.Proofs.Ytnniiobiedfmoaa

/- from XVG -/
namespace Go.Proofs.Ytnniiobiedfmoaa
open Go.RowKit
set_option linter.unusedVariables false
set_option linter.unusedSimpArgs false
set_option maxRecDepth 100000

theorem rd_zeros {g n cap B : Nat} : ∀ (m o : Nat) (xs : List Int) (w : World), Rd w B (.slice (some ⟨g, 0, none⟩) n cap) xs →
    ∃ zs, Rd (w.setCells g o (List.replicate m (.int .i64 0))) B (.slice (some ⟨g, 0, none⟩) n cap) zs ∧ zs.length = xs.length ∧ zs.take o = xs.take o ∧ w.grownBy (w.setCells g o (List.replicate m (.int .i64 0))) (some g)
  | 0, o, xs, w, h => ⟨xs, h, rfl, rfl, World.grownBy.refl _ _⟩
  | m + 1, o, xs, w, h => by
    have h1 := h.set o 0
    obtain ⟨zs, h2, h3, h4, h5⟩ := rd_zeros m (o + 1) _ _ h1.1
    refine ⟨zs, h2, by rw [h3]; simp, ?_, grown_trans h1.2 h5⟩
    have h6 := congrArg (List.take o) h4
    rw [List.take_take, List.take_take, Nat.min_eq_left (by omega)] at h6
    rw [h6, List.take_set_of_le (Nat.le_refl o)]

/-- What the filter takes away: the numbers with another number of digits. -/
def odd' (b k : Nat) (x : Int) : Bool := decide ((dgs (b : Int) x).length ≠ k)
def keep' (b k : Nat) (x : Int) : Bool := !odd' b k x

theorem width_any (x b k gb gk : Nat) (w : World) (hx : x ≤ 1000000000000) (hb : 2 ≤ b) (hb' : b ≤ 16) (hgb : w.cell? ⟨gb, 0, none⟩ = some (.int .i64 (b : Int))) (hgk : w.cell? ⟨gk, 0, none⟩ = some (.int .i64 (k : Int))) :
    Calls Try.prog 76 #[.int .i64 (x : Int), .pointer (some ⟨gb, 0, none⟩), .pointer (some ⟨gk, 0, none⟩)] w fun e w' => e = .returned (.bool (odd' b k (x : Int))) ∧ Below w.heap.size w w' := by
  have c0 : w.drew.cell? ⟨gb, 0, none⟩ = some (.int .i64 (b : Int)) := hgb
  have d0 : w.drew.cell? ⟨gk, 0, none⟩ = some (.int .i64 (k : Int)) := hgk
  have HCB := Lib.hid hgb
  have HCK := Lib.hid hgk
  have HB0 := Lib.hid (show Below w.heap.size w w.drew from (Below.refl _ _).drew)
  have HCD := Lib.hid (fun w' => countDigits_any (x : Int) (b : Int) w' (by omega) (by omega) (by omega) (by omega))
  have HO := Lib.hid (show odd' b k (x : Int) = (((dgs (b : Int) (x : Int)).length : Int) != (k : Int)) by
    unfold odd'
    by_cases h : (dgs (b : Int) (x : Int)).length = k
    · rw [bne_no (by omega)]; simp [h]
    · rw [bne_yes (by omega)]; simp [h])
  obtain ⟨L, hL⟩ : ∃ L, L = (dgs (b : Int) (x : Int)).length := ⟨_, rfl⟩
  rw [← hL] at HCD HO
  clear hL hgb hgk
  go_enter Try.func76, Try.ntmps76
  go_wp2
  go_region_held3 (fun w' => w'.cell? ⟨gb, 0, none⟩ = some (.int .i64 (b : Int)) ∧ w'.cell? ⟨gk, 0, none⟩ = some (.int .i64 (k : Int))) (first | exact ⟨c0, d0⟩ | exact ⟨c1, d1⟩) (first
    | (go_at_call 64; refine (HCD.out _).mono ?_; rintro e w1 ⟨rfl, hb1⟩; have B1 := Lib.hid (Below.step HB0.out HB0.out.size hb1); have c1 := Below.keeps_cell B1.out HCB.out; have d1 := Below.keeps_cell B1.out HCK.out; clear hb1))
  go_wp2
  go_ret
  exact ⟨by rw [HO.out]; rfl, B1.out⟩

end Go.Proofs.Ytnniiobiedfmoaa

/- from XVH -/
namespace Go.Proofs.Ytnniiobiedfmoaa
open Go.RowKit
set_option linter.unusedVariables false
set_option linter.unusedSimpArgs false
set_option maxRecDepth 100000

abbrev FW (gb gk : Nat) : Value := .func (Fn.func 76) #[] #[.pointer (some ⟨gb, 0, none⟩), .pointer (some ⟨gk, 0, none⟩)]

theorem indexFunc_any (g n cap B b k gb gk : Nat) (xs : List Int) (w : World) (h : Rd w B (.slice (some ⟨g, 0, none⟩) n cap) xs) (hn : n ≤ 1000000) (hX : ∀ x ∈ xs, 0 ≤ x ∧ x ≤ 1000000000000) (hb : 2 ≤ b) (hb' : b ≤ 16)
    (hgb : w.cell? ⟨gb, 0, none⟩ = some (.int .i64 (b : Int))) (hgk : w.cell? ⟨gk, 0, none⟩ = some (.int .i64 (k : Int))) :
    Calls Try.prog 96 #[.slice (some ⟨g, 0, none⟩) n cap, FW gb gk] w fun e w' => ∃ z : Int, e = .returned (.int .i64 z) ∧ ((z = -1 ∧ ∀ x ∈ xs, keep' b k x = true) ∨ ∃ i : Nat, z = (i : Int) ∧ i < xs.length ∧ odd' b k (xs.getD i 0) = true ∧ ∀ t, t < i → keep' b k (xs.getD t 0) = true) ∧ Below w.heap.size w w' := by
  have H := Lib.hid h
  have HX := Lib.hid hX
  have HGB := Lib.hid hgb
  have HGK := Lib.hid hgk
  have hnl := h.at.1
  have HNL := Lib.hid hnl
  clear h hX hgb hgk hnl
  go_enter Try.func96, Try.ntmps96
  go_wp2
  go_loopw [8] (fun i wr => ∃ j : Nat, j ≤ n ∧ i = .int .i64 (j : Int) ∧ Hid (∀ t, t < j → keep' b k (xs.getD t 0) = true) ∧ Below w.heap.size w wr) (fun i _ => n - (intOf i).toNat)
  case atStart => exact ⟨0, Nat.zero_le _, rfl, Lib.hid (fun t ht => absurd ht (Nat.not_lt_zero _)), Below.refl _ _⟩
  case round =>
    obtain ⟨j, hj, rfl, HK, hbl⟩ := hrel
    have HB := Lib.hid hbl
    clear hbl
    by_cases hlt : j < n
    · have hjl : j < xs.length := by rw [← HNL.out]; exact hlt
      have hcell := (H.out.keep HB.out).at.2.2.2.2.1 j hjl
      have hg1 : xs.getD j 0 = xs[j] := by rw [List.getD_eq_getElem?_getD, List.getElem?_eq_getElem hjl]; rfl
      obtain ⟨x0, x1⟩ := HX.out _ (List.getElem_mem hjl)
      obtain ⟨X, hXX⟩ : ∃ X : Nat, xs[j] = (X : Int) := ⟨xs[j].toNat, by omega⟩
      rw [hXX] at hcell hg1
      have hXb : X ≤ 1000000000000 := by omega
      have HW := Lib.hid (fun w' (hb2 : Below w.heap.size w w') => width_any X b k gb gk w' hXb hb hb' (Below.keeps_cell hb2 HGB.out) (Below.keeps_cell hb2 HGK.out))
      have HG1 := Lib.hid hg1
      clear hg1 hXX x0 x1
      cases hq : odd' b k (X : Int)
      · have HK2 := Lib.hid (show ∀ t, t < j + 1 → keep' b k (xs.getD t 0) = true from fun t ht => by
          by_cases e : t = j
          · subst e; rw [HG1.out]; unfold keep'; rw [hq]; rfl
          · exact HK.out t (by omega))
        go_wp2_with (go_at_call 76; refine (HW.out _ HB.out).mono ?_; rw [hq]; rintro e w1 ⟨rfl, hb1⟩; have HB1 := Lib.hid (Below.step HB.out HB.out.size hb1); clear hb1)
        go_roundw
        case rel => exact ⟨j + 1, by omega, by go_num, HK2, HB1.out⟩
        case measure => simp [intOf]; omega
      · have HQ := Lib.hid (show odd' b k (xs.getD j 0) = true by rw [HG1.out]; exact hq)
        go_wp2_with (go_at_call 76; refine (HW.out _ HB.out).mono ?_; rw [hq]; rintro e w1 ⟨rfl, hb1⟩; have HB1 := Lib.hid (Below.step HB.out HB.out.size hb1); clear hb1)
        go_ret
        exact ⟨_, rfl, .inr ⟨j, rfl, hjl, HQ.out, HK.out⟩, HB1.out⟩
    · obtain rfl : j = n := by omega
      have HAll := Lib.hid (show ∀ x ∈ xs, keep' b k x = true from fun x hx => by
        obtain ⟨t, ht, rfl⟩ := List.getElem_of_mem hx
        have := HK.out t (by rw [HNL.out]; exact ht)
        rwa [List.getD_eq_getElem?_getD, List.getElem?_eq_getElem ht] at this)
      go_wp2
      go_ret
      exact ⟨_, rfl, .inl ⟨rfl, HAll.out⟩, HB.out⟩

theorem filter_take_succ (P : Int → Bool) (xs : List Int) (j : Nat) (h : j < xs.length) : (xs.take (j + 1)).filter P = (xs.take j).filter P ++ (if P (xs.getD j 0) = true then [xs.getD j 0] else []) := by
  have hg : xs.getD j 0 = xs[j] := by rw [List.getD_eq_getElem?_getD, List.getElem?_eq_getElem h]; rfl
  rw [take_snoc' xs j h, List.filter_append, hg]
  by_cases hp : P xs[j] = true
  · simp [hp]
  · simp [hp]
theorem filter_take_all (P : Int → Bool) (xs : List Int) : ∀ i, i ≤ xs.length → (∀ t, t < i → P (xs.getD t 0) = true) → (xs.take i).filter P = xs.take i
  | 0, _, _ => rfl
  | i + 1, h, hp => by
    rw [filter_take_succ P xs i (by omega), filter_take_all P xs i (by omega) (fun t ht => hp t (by omega)), if_pos (hp i (by omega)), take_snoc' xs i (by omega)]
    congr 2
    rw [List.getD_eq_getElem?_getD, List.getElem?_eq_getElem (show i < xs.length by omega)]
    rfl

set_option maxHeartbeats 1000000 in
theorem deleteFunc_any (g n cap B b k gb gk : Nat) (xs : List Int) (w : World) (h : Rd w B (.slice (some ⟨g, 0, none⟩) n cap) xs) (hn : n ≤ 1000000) (hX : ∀ x ∈ xs, 0 ≤ x ∧ x ≤ 1000000000000) (hb : 2 ≤ b) (hb' : b ≤ 16)
    (hgb : w.cell? ⟨gb, 0, none⟩ = some (.int .i64 (b : Int))) (hgk : w.cell? ⟨gk, 0, none⟩ = some (.int .i64 (k : Int))) (hbB : gb < B) (hkB : gk < B) (hBw : B ≤ w.heap.size) :
    Calls Try.prog 77 #[.slice (some ⟨g, 0, none⟩) n cap, FW gb gk] w fun e w' => ∃ m, e = .returned (.slice (some ⟨g, 0, none⟩) m cap) ∧ Rd w' B (.slice (some ⟨g, 0, none⟩) m cap) (xs.filter (keep' b k)) ∧ Below B w w' := by
  have H := Lib.hid h
  have HX := Lib.hid hX
  have HGB := Lib.hid hgb
  have HGK := Lib.hid hgk
  have HNL := Lib.hid h.at.1
  have hgB := h.at.2.1
  have hcap := h.at.2.2.2.1
  rw [← HNL.out] at hcap
  clear h hX hgb hgk
  go_enter Try.func77, Try.ntmps77
  go_wp2_with fail
  refine (indexFunc_any g n cap B b k gb gk xs _ H.out hn HX.out hb hb' HGB.out HGK.out).mono ?_
  rintro e w1 ⟨z, rfl, hz, hb1⟩
  have B1 := Lib.hid (hb1.mono hBw)
  have R1 := Lib.hid (H.out.keep hb1)
  clear hb1
  rcases hz with ⟨rfl, hall⟩ | ⟨i, rfl, hi, hodd, hkeep⟩
  · have HE := Lib.hid (show xs.filter (keep' b k) = xs from List.filter_eq_self.2 hall)
    clear hall
    go_wp2
    go_ret
    exact ⟨n, rfl, by rw [HE.out]; exact R1.out, B1.out⟩
  · have hin : i < n := by rw [HNL.out]; exact hi
    have hz : ((i : Int) == -1) = false := beq_no (by omega)
    have HOD := Lib.hid hodd
    have HKE := Lib.hid (show (xs.take (i + 1)).filter (keep' b k) = xs.take i by
      rw [filter_take_succ _ xs i hi, filter_take_all _ xs i (by omega) hkeep, if_neg (by unfold keep'; rw [hodd]; simp), List.append_nil])
    clear hodd hkeep hi
    go_wp2
    go_loopw [5, 6] (fun a c wr => ∃ (q j : Nat) (ys : List Int), j ≤ n ∧ q < j ∧ a = .int .i64 (q : Int) ∧ c = .int .i64 (j : Int) ∧ Rd wr B (.slice (some ⟨g, 0, none⟩) n cap) ys ∧ Hid (ys.length = n) ∧ Hid (ys.take q = (xs.take j).filter (keep' b k)) ∧ Hid (∀ t, j ≤ t → ys.getD t 0 = xs.getD t 0) ∧ Below B w wr) (fun _ c _ => n - (intOf c).toNat)
    case atStart => exact ⟨i, i + 1, xs, by omega, by omega, rfl, by go_num, R1.out, Lib.hid HNL.out.symm, Lib.hid HKE.out.symm, Lib.hid (fun t _ => rfl), B1.out⟩
    case round =>
      obtain ⟨q, j, ys, hj, hqj, rfl, rfl, hr, HYL, HYT, HYD, hbl⟩ := hrel
      have HR := Lib.hid hr
      have HB := Lib.hid hbl
      clear hr hbl
      by_cases hlt : j < n
      · have hjl : j < ys.length := by rw [HYL.out]; exact hlt
        have hjx : j < xs.length := by rw [← HNL.out]; exact hlt
        have hcell := HR.out.at.2.2.2.2.1 j hjl
        have hyx : ys[j] = xs[j] := by
          have := HYD.out j (Nat.le_refl _)
          rwa [List.getD_eq_getElem?_getD, List.getElem?_eq_getElem hjl, List.getD_eq_getElem?_getD, List.getElem?_eq_getElem hjx] at this
        have hg1 : xs.getD j 0 = xs[j] := by rw [List.getD_eq_getElem?_getD, List.getElem?_eq_getElem hjx]; rfl
        obtain ⟨x0, x1⟩ := HX.out _ (List.getElem_mem hjx)
        obtain ⟨X, hXX⟩ : ∃ X : Nat, xs[j] = (X : Int) := ⟨xs[j].toNat, by omega⟩
        rw [hyx, hXX] at hcell
        rw [hXX] at hg1
        have hXb : X ≤ 1000000000000 := by omega
        have HW := Lib.hid (fun w' (hb2 : Below B w w') => width_any X b k gb gk w' hXb hb hb' ((hb2.cell (p := ⟨gb, 0, none⟩) hbB).trans HGB.out) ((hb2.cell (p := ⟨gk, 0, none⟩) hkB).trans HGK.out))
        have HFS := Lib.hid (filter_take_succ (keep' b k) xs j hjx)
        rw [hg1] at HFS
        have hBr := HB.out.size
        have hBs := Nat.le_trans hBw hBr
        clear hyx hg1 hXX x0 x1
        cases hq : odd' b k (X : Int)
        · have hkp : keep' b k (X : Int) = true := by unfold keep'; rw [hq]; rfl
          have HF2 := Lib.hid (show (xs.take (j + 1)).filter (keep' b k) = (xs.take j).filter (keep' b k) ++ [(X : Int)] by rw [HFS.out, if_pos hkp])
          have HCQ := Lib.hid (fun w' (hr : Rd w' B (.slice (some ⟨g, 0, none⟩) n cap) ys) => (show ∃ y : Int, w'.cell? ⟨g, q, none⟩ = some (.int .i64 y) from ⟨_, hr.at.2.2.2.2.1 q (by rw [HYL.out]; omega)⟩))
          have hqn : q < n := by omega
          clear hkp
          go_wp2_with (go_at_call 76; refine (HW.out _ HB.out).mono ?_; rw [hq]; rintro e w2 ⟨rfl, hb2⟩; have HB2 := Lib.hid (HB.out.trans (hb2.mono hBs)); have HR2 := Lib.hid (HR.out.keep hb2); obtain ⟨y, hcy⟩ := HCQ.out _ HR2.out; have hfy := HR2.out.at.2.2.2.2.2 q; have HR3 := Lib.hid (HR2.out.set q (X : Int)).1; have HB3 := Lib.hid (HB2.out.setCell (p := ⟨g, q, none⟩) hgB (.int .i64 (X : Int))); clear hb2)
          go_roundw
          case rel => exact ⟨q + 1, j + 1, ys.set q (X : Int), by omega, by omega, by go_num, by go_num, HR3.out, Lib.hid (by rw [List.length_set]; exact HYL.out), Lib.hid (by
              rw [HF2.out, ← HYT.out, take_snoc' _ q (by rw [List.length_set, HYL.out]; exact hqn), List.take_set_of_le (Nat.le_refl q)]
              congr 2
              simp), Lib.hid (fun t ht => by rw [← HYD.out t (by omega), List.getD_eq_getElem?_getD, List.getElem?_set, if_neg (by omega), ← List.getD_eq_getElem?_getD]), HB3.out⟩
          case measure => simp [intOf]; omega
        · have hkp : keep' b k (X : Int) = false := by unfold keep'; rw [hq]; rfl
          have HF2 := Lib.hid (show (xs.take (j + 1)).filter (keep' b k) = (xs.take j).filter (keep' b k) by rw [HFS.out, hkp]; simp)
          clear hkp
          go_wp2_with (go_at_call 76; refine (HW.out _ HB.out).mono ?_; rw [hq]; rintro e w2 ⟨rfl, hb2⟩; have HB2 := Lib.hid (HB.out.trans (hb2.mono hBs)); have HR2 := Lib.hid (HR.out.keep hb2); clear hb2)
          go_roundw
          case rel => exact ⟨q, j + 1, ys, by omega, by omega, rfl, by go_num, HR2.out, HYL, Lib.hid (by rw [HF2.out, HYT.out]), Lib.hid (fun t ht => HYD.out t (by omega)), HB2.out⟩
          case measure => simp [intOf]; omega
      · obtain rfl : j = n := by omega
        have hqc : ¬ cap = q := by omega
        have hqc2 : q < cap := by omega
        have hqc3 : q ≤ cap := by omega
        have hqj2 : q ≤ j := by omega
        obtain ⟨zs, hz1, hz2, hz3, hz4⟩ := rd_zeros (j - q) q ys _ HR.out
        have hcl := fun ty => Lib.run_clear_slice (P := Try.prog) wr 26 3 ty (.int .i64 0) Try.underlying26 Try.zeroValue3 rfl rfl g q (j - q) (cap - q) (by omega) (fun t ht => by rw [HR.out.at.2.2.2.2.1 (q + t) (by rw [HYL.out]; omega)]; rfl) (fun t ht => HR.out.at.2.2.2.2.2 (q + t))
        have RZ := Lib.hid (hz1.take3 q (by rw [hz2, HYL.out]; omega))
        have HBz := Lib.hid (HB.out.trans ((Below.refl B wr).grown hz4 (Nat.le_trans hBw HB.out.size) (fun k hk => by simp at hk; omega)))
        have HE := Lib.hid (show zs.take q = xs.filter (keep' b k) by rw [hz3, HYT.out, List.take_of_length_le (by rw [HNL.out]; exact Nat.le_refl _)])
        rw [HE.out] at RZ
        clear hz1 hz2 hz3 hz4
        go_wp2
        go_ret
        exact ⟨q, rfl, RZ.out, HBz.out⟩

end Go.Proofs.Ytnniiobiedfmoaa

/- from XVI -/
namespace Go.Proofs.Ytnniiobiedfmoaa
open Go.RowKit
set_option linter.unusedVariables false
set_option linter.unusedSimpArgs false
set_option maxRecDepth 100000

def OKN (k b : Int) : Bool := OKO b k
def LF_Narcissistic (k b : Int) : List Int := if OKN k b = true then (ownL b.toNat k.toNat).filter (keep' b.toNat k.toNat) else []
theorem LF_Narcissistic_len (k b : Int) : (LF_Narcissistic k b).length ≤ 2000000 := by
  unfold LF_Narcissistic OKN
  rcases oko_cases b k with ⟨h, B, P, rfl, rfl, h1, h2, h3, h4⟩ | h
  · rw [if_pos h]
    have := ownL_len h1 h2 h3 h4
    have h5 := List.length_filter_le (keep' B P) (ownL B P)
    show ((ownL B P).filter (keep' B P)).length ≤ _
    omega
  · rw [h]; simp

theorem own_small {b p : Nat} (hb : 2 ≤ b) (hb' : b ≤ 10) (hp : 1 ≤ p) (hp' : p ≤ 6) : ∀ x ∈ ownL b p, 0 ≤ x ∧ x ≤ 1000000000000 := by
  intro x hx
  obtain ⟨X, rfl, hX⟩ := (ownL_mem hb (show b ≤ 16 by omega) hp (show p ≤ 8 by omega) x).1 hx
  have h1 := ps_le p hb _ X (own_lt hb (by omega) hp (by omega) hX)
  have h2 := places_bd hb hb' hp hp'
  unfold places at h2
  have h3 := pow6 (show b - 1 ≤ 9 by omega) hp'
  have h4 := Nat.mul_le_mul h2 h3
  rw [hX] at h1
  omega

theorem narc_list {b k : Nat} (hb : 2 ≤ b) (hb' : b ≤ 16) (hp : 1 ≤ k) (hp' : k ≤ 8) {fs : List Int} (hR : fs.Pairwise (· < ·)) (hM : ∀ z, z ∈ fs ↔ Fnd b k k (b - 1) 0 (List.replicate b 0) z) : fs = (ownL b k).filter (keep' b k) := by
  refine rise_unique hR ((cano_rise _).sublist List.filter_sublist) (fun z => ?_)
  rw [hM z, fnd_all hb hp, List.mem_filter, ownL_mem hb hb' hp hp']
  constructor
  · rintro ⟨X, h1, h2, h3⟩
    exact ⟨⟨X, h1, h2⟩, by unfold keep' odd'; rw [h3]; simp⟩
  · rintro ⟨⟨X, h1, h2⟩, h3⟩
    refine ⟨X, h1, h2, ?_⟩
    unfold keep' odd' at h3
    simpa using h3

theorem spec_Narcissistic (k b : Int) (w : World) :
    Calls Try.prog 39 #[.int .i64 k, .int .i64 b] w fun e w' => ∃ u, e = .returned (.tuple #[u, .bool (OKN k b)]) ∧ Rd w' w.heap.size u (LF_Narcissistic k b) ∧ Below w.heap.size w w' := by
  rcases oko_cases b k with ⟨hok, B, P, rfl, rfl, h1, h2, h3, h4⟩ | hn
  · have HO := Lib.hid (show OKN (P : Int) (B : Int) = true from hok)
    have HL := Lib.hid (show LF_Narcissistic (P : Int) (B : Int) = (ownL B P).filter (keep' B P) by unfold LF_Narcissistic OKN; rw [if_pos hok]; rfl)
    have m0 : (2 : Int) ≤ (B : Int) := by omega
    have m1 : (B : Int) ≤ 10 := by omega
    have q0 : (1 : Int) ≤ (P : Int) := by omega
    have q1 : (P : Int) ≤ 6 := by omega
    have HM0 := Lib.hid (fun (fs : List Int) hR hM => narc_list (b := B) (k := P) (fs := fs) h1 (by omega) h3 (by omega) hR hM)
    obtain ⟨c, hc⟩ : ∃ c, c = B - 1 := ⟨_, rfl⟩
    have hb1 : (B : Int) - 1 = (c : Int) := by omega
    have HCC := Lib.hid hc
    have HS0 := Lib.hid (show Srch (w.alloc (.cells #[.int .i64 (B : Int), .int .i64 (P : Int), .slice none 0 0] 79)) w.heap.size B P (.slice none 0 0) from heap_alloc_new w _)
    have B0 := Lib.hid (alloc_below w (.cells #[.int .i64 (B : Int), .int .i64 (P : Int), .slice none 0 0] 79))
    have hs0 := (alloc_below w (.cells #[.int .i64 (B : Int), .int .i64 (P : Int), .slice none 0 0] 79)).size
    clear hok hc
    go_enter Try.func39, Try.ntmps39
    go_wp2_with fail
    refine (l1In_yes _ _ _ _ q0 q1).mono ?_
    rintro e w1 ⟨rfl, rfl⟩
    go_wp2_with fail
    refine (l1In_yes _ _ _ _ m0 m1).mono ?_
    rintro e w1 ⟨rfl, rfl⟩
    go_wp2_with (at_make; refine wpList_mkR rfl _ _ rfl .i64 .i64 _ _ B rfl rfl rfl rfl (by omega) ?_; intro w1 hr1 hg1 hb1'; have R1 := Lib.hid (hr1.mono hs0); have B1 := Lib.hid (Below.step B0.out hs0 hb1'); have S1 := Lib.hid (HS0.out.keep hb1'); clear hr1 hg1 hb1')
    have R1b := Lib.hid (show Rd w1 w.heap.size (.slice (some ⟨w.heap.size + 1, 0, none⟩) B B) (List.replicate B 0) by have h := R1.out; rwa [World.size_alloc] at h)
    clear R1
    refine (try_first _ B P w.heap.size h1 h2 h3 h4 P _ _ _ [] _ (by omega) S1.out (Rd.nil _ _) List.Pairwise.nil (fun z hz => by simp at hz) R1b.out B1.out.size c HCC.out).mono ?_
    rintro e w3 ⟨rfl, v3, fs3, hS3, hF3, hR3, hM3, hO3, hg3⟩
    have S3 := Lib.hid hS3
    have F3 := Lib.hid hF3
    have HE := Lib.hid (HM0.out fs3 hR3 (fun z => (hM3 z).trans ⟨fun h => h.elim (fun h => by simp at h) id, .inr⟩))
    have B3 := Lib.hid (B1.out.trans (gw_below' hg3 (Nat.le_refl _) B1.out.size))
    have hcf := hS3.c2
    obtain ⟨a, c4, rfl⟩ := hF3.sl.len
    clear hS3 hF3 hR3 hM3 hO3 hg3
    go_wp2
    go_ret2
    exact ⟨_, by rw [HO.out]; rfl, by rw [HL.out, ← HE.out]; exact F3.out, B3.out⟩
  · have HO := Lib.hid (show OKN k b = false from hn)
    have HL := Lib.hid (show LF_Narcissistic k b = [] by unfold LF_Narcissistic OKN; rw [hn]; rfl)
    have hnot := of_decide_eq_false hn
    by_cases hk : 1 ≤ k ∧ k ≤ 6
    · obtain ⟨q0, q1⟩ := hk
      have H := Lib.hid (show b < 2 ∨ 10 < b by
        by_cases h : 2 ≤ b ∧ b ≤ 10
        · exact absurd ⟨h, q0, q1⟩ hnot
        · omega)
      clear hn hnot
      go_enter Try.func39, Try.ntmps39
      go_wp2_with fail
      refine (l1In_yes _ _ _ _ q0 q1).mono ?_
      rintro e w1 ⟨rfl, rfl⟩
      go_wp2_with fail
      refine (l1In_no _ _ _ _ H.out).mono ?_
      rintro e w1 ⟨rfl, rfl⟩
      go_wp2
      go_ret2
      exact ⟨_, by rw [HO.out]; rfl, by rw [HL.out]; exact Rd.nil _ _, Below.refl _ _⟩
    · have H := Lib.hid (show k < 1 ∨ 6 < k by omega)
      clear hn hnot hk
      go_enter Try.func39, Try.ntmps39
      go_wp2_with (go_at_call 68; refine (l1In_no _ _ _ _ H.out).mono ?_; rintro e w1 ⟨rfl, rfl⟩)
      go_ret2
      exact ⟨_, by rw [HO.out]; rfl, by rw [HL.out]; exact Rd.nil _ _, Below.refl _ _⟩

theorem impl_Narcissistic (k b : Int) (w : World) :
    Calls Try.prog 38 #[.int .i64 k, .int .i64 b] w fun e w' => ∃ u, e = .returned (.tuple #[u, .bool (OKN k b)]) ∧ Rd w' w.heap.size u (LF_Narcissistic k b) ∧ Below w.heap.size w w' := by
  have hmf : ∀ (fn : Fn) (first cap : Array Value) (w : World), (Instr.makeFunc fn first cap).run Try.prog w = .ok (.func fn first cap) w := fun _ _ _ _ => rfl
  obtain ⟨W2, hW2⟩ : ∃ W2, W2 = (w.alloc (.cells #[.int .i64 k] 3)).alloc (.cells #[.int .i64 b] 3) := ⟨_, rfl⟩
  have HB2 := Lib.hid (show Below w.heap.size w W2 by rw [hW2]; exact (alloc_below w _).alloc (by simp) _)
  have HCK := Lib.hid (show W2.cell? ⟨w.heap.size, 0, none⟩ = some (.int .i64 k) by rw [hW2]; exact Go.Lib.cell?_alloc_some _ (by rw [cell_of_row _ w.heap.size 0 _ _ _ (heap_alloc_new w _)]; rfl))
  have HCB := Lib.hid (show W2.cell? ⟨w.heap.size + 1, 0, none⟩ = some (.int .i64 b) by rw [hW2, cell_alloc2]; rfl)
  have HSZ := Lib.hid (show W2.heap.size = w.heap.size + 2 by rw [hW2]; simp)
  have HW := Lib.hid hW2
  clear hW2
  rcases oko_cases b k with ⟨hok, B, P, rfl, rfl, h1, h2, h3, h4⟩ | hn
  · have HO := Lib.hid (show OKN (P : Int) (B : Int) = true from hok)
    have HL := Lib.hid (show LF_Narcissistic (P : Int) (B : Int) = (ownL B P).filter (keep' B P) by unfold LF_Narcissistic OKN; rw [if_pos hok]; rfl)
    have HOY := Lib.hid (own_yes B P · h1 h2 h3 h4)
    have HSM := Lib.hid (own_small h1 h2 h3 h4)
    have hol := ownL_len h1 h2 h3 h4
    obtain ⟨xs, hxs⟩ : ∃ xs, xs = ownL B P := ⟨_, rfl⟩
    rw [← hxs] at HOY HSM HL hol
    clear hok hxs
    go_enter Try.func38, Try.ntmps38
    go_wp2_with fail
    rw [← HW.out]
    refine (HOY.out _).mono ?_
    rintro e w3 ⟨gu, cu, rfl, hr, hb3⟩
    have R3 := Lib.hid hr
    have B3 := Lib.hid (Below.step HB2.out HB2.out.size hb3)
    have C3 := Lib.hid (Below.keeps_cell hb3 HCB.out)
    have K3 := Lib.hid (Below.keeps_cell hb3 HCK.out)
    have hsz := HSZ.out
    have hb3s := hb3.size
    clear hr hb3
    go_wp2_with fail
    refine (deleteFunc_any gu xs.length cu W2.heap.size B P (w.heap.size + 1) w.heap.size xs _ R3.out (by omega) HSM.out h1 (by omega) C3.out K3.out (by omega) (by omega) hb3s).mono ?_
    rintro e w4 ⟨m, rfl, hr4, hb4⟩
    have R4 := Lib.hid (hr4.mono HB2.out.size)
    have B4 := Lib.hid (B3.out.trans (hb4.mono HB2.out.size))
    clear hr4 hb4 hsz
    go_wp2
    go_ret2
    exact ⟨_, by rw [HO.out]; rfl, by rw [HL.out]; exact R4.out, B4.out⟩
  · have HO := Lib.hid (show OKN k b = false from hn)
    have HL := Lib.hid (show LF_Narcissistic k b = [] by unfold LF_Narcissistic OKN; rw [hn]; rfl)
    have HN := Lib.hid hn
    clear hn
    go_enter Try.func38, Try.ntmps38
    go_wp2_with fail
    rw [← HW.out]
    refine (own_no b k _ HN.out).mono ?_
    rintro e w3 ⟨rfl, rfl⟩
    go_wp2
    go_ret2
    exact ⟨_, by rw [HO.out]; rfl, by rw [HL.out]; exact Rd.nil _ _, HB2.out⟩

end Go.Proofs.Ytnniiobiedfmoaa
