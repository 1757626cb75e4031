/-
  Joint text of VA, VD: what each proves stands ahead of it.
-/
import Derived.Test.YtlbjeiaihenjkaaGreatDoorJ02
import Derived.Test.YtlbjeiaihenjkaaGreatDoorJ00
import Derived.Test.YtlbjeiaihenjkaaGreatDoorJ18
import Derived.Test.YtlbjeiaihenjkaaGreatDoorJ12
import Derived.Test.YtlbjeiaihenjkaaGreatDoorJ01
import Derived.Test.YtlbjeiaihenjkaaGreatDoorJ16
import Derived.Test.YtlbjeiaihenjkaaGreatDoorJ17
import Derived.Deep.RegionLaw
import Derived.Deep.RegionHeld3
import Derived.BigRegion
import Derived.Lib.SmallJoins
/- from VA: The model's increasing lists without repeats.  -/
namespace Go.Proofs.YtlbjeiaihenjkaaGreatDoor
open Go.RowKit
set_option linter.unusedVariables false
set_option linter.unusedSimpArgs false
set_option maxRecDepth 100000

/-- A source of an append. -/
def SrcV (w : World) (u : Value) (ys : List Int) : Prop := (u = .slice none 0 0 ∧ ys = []) ∨ ∃ ad c, u = .slice (some ad) ys.length c ∧ ∀ j (h : j < ys.length), w.cell? (ad.add j) = some (.int .i64 ys[j])

theorem wpList_appV {w : World} {ops : Array Oper} {rest : List Oper} {o : Oper} {a : Act} {Q : Exit → Act → World → Prop} (hgd : o.guard = none) (s x : Operand)
    (ho : o.op = .call { callee := .builtin .append, args := #[s, x], argTypes := #[38, 38] })
    (B : Nat) (v u : Value) (xs ys : List Int) (hs : a.eval s = v) (hx : a.eval x = u) (hv : Rd w B v xs) (hu : SrcV w u ys)
    (hlen : xs.length + ys.length ≤ 17179869184) (hB : B ≤ w.heap.size)
    (h : ∀ v' w', Rd w' B v' (xs ++ ys) → w.grownBy w' v.ownBlock → Below B w w' → wpList Tryz.prog ops Q rest (a.put o.dst v') w') : wpList Tryz.prog ops Q (o :: rest) a w := by
  obtain ⟨i0, hi, hz0, hz1, hz2⟩ := info_parts info3
  have hbel : ∀ w', w.grownBy w' v.ownBlock → Below B w w' := fun w' hg => (Below.refl _ _).grown hg hB (fun k hk => (hv.lt k hk).1)
  rcases hu with ⟨rfl, rfl⟩ | ⟨ad, cap, rfl, hc⟩
  · refine wpList_append_own_none hgd s x 38 ho B 3 i0 1 Tryz.underlying38 hi v xs.length _ hs hv hx ?_
    exact h v w (by simpa using hv) (World.grownBy.refl _ _) (Below.refl _ _)
  · refine wpList_append_own w hgd s x 38 ho B 3 i0 (.int .i64 0) 1 8 Tryz.underlying38 hi hz0 hz1 hz2 rfl (by decide) v xs.length _ hs hv ad ys.length cap (ys.map (Value.int .i64)) hx (by simp) ?_ (ints_oneCell _ _) (by unfold maxLen; omega) (by omega) hB ?_
    · intro j q hj
      have hj' : j < ys.length := by
        have := (List.getElem?_eq_some_iff.1 hj).1
        simpa using this
      rw [hc j hj', ← hj]
      simp [hj']
    · intro v' w' h2 h3 _
      refine h v' w' ?_ h3 (hbel w' h3)
      unfold Rd
      rw [List.length_append, List.map_append]
      exact h2

theorem addr_addV (g o j : Nat) : (⟨g, o, none⟩ : Addr).add j = ⟨g, o + j, none⟩ := by
  unfold Addr.add
  split <;> simp_all

theorem srcV_drop {w : World} {B g n cap : Nat} {xs : List Int} (h : Rd w B (.slice (some ⟨g, 0, none⟩) n cap) xs) (q c : Nat) (o m : Nat) (hq : q ≤ xs.length) (ho : q < xs.length → o = q) (hm : m = xs.length - q) :
    SrcV w (.slice (some ⟨g, o, none⟩) m c) (xs.drop q) := by
  refine .inr ⟨⟨g, o, none⟩, c, by rw [List.length_drop, hm], fun j hj => ?_⟩
  have hj' : j < xs.length - q := by simpa using hj
  obtain rfl := ho (by omega)
  rw [addr_addV, h.at.2.2.2.2.1 (o + j) (by omega)]
  simp
theorem srcV_take {w : World} {B g n cap : Nat} {xs : List Int} (h : Rd w B (.slice (some ⟨g, 0, none⟩) n cap) xs) (q c : Nat) (hq : q ≤ xs.length) : SrcV w (.slice (some ⟨g, 0, none⟩) q c) (xs.take q) := by
  refine .inr ⟨⟨g, 0, none⟩, c, by rw [List.length_take, Nat.min_eq_left hq], fun j hj => ?_⟩
  have hj' : j < q := by rw [List.length_take] at hj; omega
  rw [addr_addV, Nat.zero_add, h.at.2.2.2.2.1 j (by omega)]
  simp

theorem rd_emptyV (w : World) : Rd (w.alloc (.cells #[] 3)) w.heap.size (.slice (some ⟨w.heap.size, 0, none⟩) 0 0) [] := by
  have := World.ownsRow_lit (e := 3) (size := 1) (base := w.heap.size) w #[] 0 (Nat.le_refl _) (by unfold maxLen; omega) rfl
  exact this

/-- A number laid into an increasing list. -/
theorem putv_rise (xs : List Int) (x : Int) (k : Nat) (hk : k ≤ xs.length) (hs : xs.Pairwise (· < ·)) (h1 : ∀ j (hj : j < xs.length), j < k → xs[j] < x) (h2 : ∀ (h : k < xs.length), x < xs[k]) :
    (xs.take k ++ [x] ++ xs.drop k).Pairwise (· < ·) ∧ ∀ z, z ∈ xs.take k ++ [x] ++ xs.drop k ↔ z ∈ xs ∨ z = x := by
  have hs' : (xs.take k ++ xs.drop k).Pairwise (· < ·) := by rw [List.take_append_drop]; exact hs
  rw [List.pairwise_append] at hs'
  obtain ⟨ha, hb, hc⟩ := hs'
  have hx : ∀ a ∈ xs.take k, a < x := by
    intro a ha
    obtain ⟨j, hj, rfl⟩ := List.getElem_of_mem ha
    have hj' : j < k ∧ j < xs.length := by simp at hj; omega
    rw [List.getElem_take]
    exact h1 j hj'.2 hj'.1
  have hy : ∀ a ∈ xs.drop k, x < a := by
    intro a ha
    have hlt : k < xs.length := by
      have := List.length_pos_of_mem ha
      simp at this
      omega
    rw [drop_cons xs k hlt] at ha hb
    rw [List.pairwise_cons] at hb
    have h3 := h2 hlt
    rcases List.mem_cons.1 ha with rfl | ha
    · exact h3
    · have := hb.1 a ha; omega
  constructor
  · rw [List.append_assoc, List.pairwise_append]
    refine ⟨ha, ?_, ?_⟩
    · rw [List.singleton_append, List.pairwise_cons]
      exact ⟨hy, hb⟩
    · intro a ha2 b hb2
      rw [List.singleton_append, List.mem_cons] at hb2
      rcases hb2 with rfl | hb2
      · exact hx a ha2
      · exact hc a ha2 b hb2
  · intro z
    have : z ∈ xs ↔ z ∈ xs.take k ∨ z ∈ xs.drop k := by rw [← List.mem_append, List.take_append_drop]
    rw [this]
    simp only [List.mem_append, List.mem_singleton]
    constructor
    · rintro ((h | h) | h) <;> simp [h]
    · rintro ((h | h) | h) <;> simp [h]

theorem putv_there (xs : List Int) (x : Int) (k : Nat) (hk : k < xs.length) (he : xs[k] = x) : ∀ z, z ∈ xs ↔ z ∈ xs ∨ z = x := fun z => by
  constructor
  · exact .inl
  · rintro (h | rfl)
    · exact h
    · rw [← he]; exact List.getElem_mem hk

set_option maxHeartbeats 1000000 in
theorem l1PutV_any (v : Value) (xs : List Int) (x : Int) (B : Nat) (w : World) (h : Rd w B v xs) (hB : B ≤ w.heap.size) (hl : xs.length ≤ 1000000) (hs : xs.Pairwise (· < ·)) :
    Calls Tryz.prog 210 #[v, .int .i64 x] w fun e w' => ∃ u, e = .returned u ∧ ∃ ys, Rd w' B u ys ∧ ys.Pairwise (· < ·) ∧ (∀ z, z ∈ ys ↔ z ∈ xs ∨ z = x) ∧ Below w.heap.size w w' := by
  have H := Lib.hid h
  have HS := Lib.hid hs
  rcases h.cases with ⟨rfl, rfl⟩ | ⟨g, cap, rfl, hg, hgl, hoc, hcm, hoc2, hof⟩
  · have HP := Lib.hid (putv_rise [] x 0 (by simp) List.Pairwise.nil (fun j hj => by simp at hj) (fun h => by simp at h))
    clear h hs
    go_enter Tryz.func210, Tryz.ntmps210
    go_wp2
    refine wp_loop_rounds 1 ?_
    rw [rounds_succ]
    go_wp2_with (first | (at_builtin; refine wpList_appV rfl (.tmp 34) (.tmp 37) rfl w.heap.size _ _ [] [] rfl rfl (rd_emptyV w) (.inl ⟨rfl, rfl⟩) (by simp) (by simp) ?_; intro v1 w1 hr1 hg1 hb1; have R1 := Lib.hid hr1; have B1 := Lib.hid (((Below.refl w.heap.size w).alloc (Nat.le_refl _) (.cells #[] 3)).trans hb1); have Z1 := B1.out.size; clear hr1 hg1 hb1) | (at_builtin; refine wpList_appR rfl (.tmp 39) (.tmp 41) rfl w.heap.size w.heap.size _ _ [] [x] rfl rfl (R1.out.alloc _) (Rd.litB _ _ _ Z1) (by simp) (by simp; omega) ?_; intro v2 w2 hr2 hg2 hb2; have R2 := Lib.hid hr2; have B2 := Lib.hid ((B1.out.alloc Z1 _).trans hb2); have Z2 := B2.out.size; clear hr2 hg2 hb2) | (at_builtin; refine wpList_appV rfl (.tmp 43) (.tmp 46) rfl w.heap.size _ _ [x] [] rfl rfl R2.out (.inl ⟨rfl, rfl⟩) (by simp) Z2 ?_; intro v3 w3 hr3 hg3 hb3; have R3 := Lib.hid hr3; have B3 := Lib.hid (B2.out.trans hb3); clear hr3 hg3 hb3))
    go_ret
    exact ⟨_, rfl, [x], R3.out.mono hB, by simp, by simp, B3.out⟩
  · have HC := Lib.hid hoc2
    clear hoc2 hof h hs
    go_enter Tryz.func210, Tryz.ntmps210
    go_wp2
    go_loop [5] (fun j => ∃ q : Nat, q ≤ xs.length ∧ j = .int .i64 q ∧ Hid (∀ t (ht : t < xs.length), t < q → xs[t] < x)) (fun j => xs.length - (intOf j).toNat)
    case atStart => exact ⟨0, Nat.zero_le _, rfl, Lib.hid (fun t ht h => by omega)⟩
    case round =>
      obtain ⟨q, hq, rfl, HQ⟩ := hrel
      by_cases hq1 : q < xs.length
      · have hcq := HC.out q hq1
        by_cases hle : xs[q] < x
        · go_wp2
          go_round
          case rel => exact ⟨q + 1, by omega, by go_num, Lib.hid (fun t ht h => by by_cases e : t = q; (subst e; exact hle); exact HQ.out t ht (by omega))⟩
          case measure => simp [intOf]; omega
        · have hle2 : x ≤ xs[q] := by omega
          by_cases he : xs[q] = x
          · have hbq : (xs[q] == x) = true := beq_yes he
            have HM := Lib.hid (putv_there xs x q hq1 he)
            clear hle he
            go_wp2
            go_ret
            exact ⟨_, rfl, xs, H.out, HS.out, HM.out, Below.refl _ _⟩
          · have hbq : (xs[q] == x) = false := beq_no he
            have HP := Lib.hid (putv_rise xs x q hq HS.out HQ.out (fun _ => by omega))
            have hqc : q < cap := by omega
            have hqc2 : q ≤ cap := by omega
            clear hle he
            go_wp2_with (first | (at_builtin; refine wpList_appV rfl (.tmp 34) (.tmp 37) rfl w.heap.size _ _ [] (xs.take q) rfl rfl (rd_emptyV w) (srcV_take (H.out.alloc _) q _ hq) (by simp; omega) (by simp) ?_; intro v1 w1 hr1 hg1 hb1; have R1 := Lib.hid hr1; have B1 := Lib.hid (((Below.refl w.heap.size w).alloc (Nat.le_refl _) (.cells #[] 3)).trans hb1); have Z1 := B1.out.size; clear hr1 hg1 hb1) | (at_builtin; refine wpList_appR rfl (.tmp 39) (.tmp 41) rfl w.heap.size w.heap.size _ _ ([] ++ xs.take q) [x] rfl rfl (R1.out.alloc _) (Rd.litB _ _ _ Z1) (by simp; omega) (by simp; omega) ?_; intro v2 w2 hr2 hg2 hb2; have R2 := Lib.hid hr2; have B2 := Lib.hid ((B1.out.alloc Z1 _).trans hb2); have Z2 := B2.out.size; clear hr2 hg2 hb2) | (at_builtin; refine wpList_appV rfl (.tmp 43) (.tmp 46) rfl w.heap.size _ _ ([] ++ xs.take q ++ [x]) (xs.drop q) rfl rfl R2.out (srcV_drop (H.out.keep B2.out) q _ _ _ hq (fun h => by first | rfl | omega) (by omega)) (by simp; omega) Z2 ?_; intro v3 w3 hr3 hg3 hb3; have R3 := Lib.hid hr3; have B3 := Lib.hid (B2.out.trans hb3); clear hr3 hg3 hb3))
            go_ret
            exact ⟨_, rfl, _, R3.out.mono hB, HP.out.1, HP.out.2, B3.out⟩
      · obtain rfl : q = xs.length := by omega
        have HP := Lib.hid (putv_rise xs x xs.length (Nat.le_refl _) HS.out HQ.out (fun h => absurd h (Nat.lt_irrefl _)))
        have hqc2 : xs.length ≤ cap := by omega
        by_cases hcl : xs.length < cap
        all_goals
          go_wp2_with (first | (at_builtin; refine wpList_appV rfl (.tmp 34) (.tmp 37) rfl w.heap.size _ _ [] (xs.take xs.length) rfl rfl (rd_emptyV w) (srcV_take (H.out.alloc _) xs.length _ (Nat.le_refl _)) (by simp; omega) (by simp) ?_; intro v1 w1 hr1 hg1 hb1; have R1 := Lib.hid hr1; have B1 := Lib.hid (((Below.refl w.heap.size w).alloc (Nat.le_refl _) (.cells #[] 3)).trans hb1); have Z1 := B1.out.size; clear hr1 hg1 hb1) | (at_builtin; refine wpList_appR rfl (.tmp 39) (.tmp 41) rfl w.heap.size w.heap.size _ _ ([] ++ xs.take xs.length) [x] rfl rfl (R1.out.alloc _) (Rd.litB _ _ _ Z1) (by simp; omega) (by simp; omega) ?_; intro v2 w2 hr2 hg2 hb2; have R2 := Lib.hid hr2; have B2 := Lib.hid ((B1.out.alloc Z1 _).trans hb2); have Z2 := B2.out.size; clear hr2 hg2 hb2) | (at_builtin; refine wpList_appV rfl (.tmp 43) (.tmp 46) rfl w.heap.size _ _ ([] ++ xs.take xs.length ++ [x]) (xs.drop xs.length) rfl rfl R2.out (srcV_drop (H.out.keep B2.out) xs.length _ _ _ (Nat.le_refl _) (fun h => by first | rfl | omega) (by omega)) (by simp; omega) Z2 ?_; intro v3 w3 hr3 hg3 hb3; have R3 := Lib.hid hr3; have B3 := Lib.hid (B2.out.trans hb3); clear hr3 hg3 hb3))
          go_ret
          exact ⟨_, rfl, _, R3.out.mono hB, HP.out.1, HP.out.2, B3.out⟩

end Go.Proofs.YtlbjeiaihenjkaaGreatDoor

/- from VD: Numbers that are their own power sums: the model's search.  -/
namespace Go.Proofs.YtlbjeiaihenjkaaGreatDoor
open Go.RowKit
set_option linter.unusedVariables false
set_option linter.unusedSimpArgs false
set_option maxRecDepth 100000

/-- The search's record: the base, the power, what has been found. -/
def Srch (w : World) (gw b p : Nat) (v : Value) : Prop := w.heap[gw]? = some (.cells #[.int .i64 (b : Int), .int .i64 (p : Int), v] 169 (0, 0))
theorem Srch.lt {w : World} {gw b p : Nat} {v : Value} (h : Srch w gw b p v) : gw < w.heap.size := (Array.getElem?_eq_some_iff.1 h).1
theorem Srch.c0 {w : World} {gw b p : Nat} {v : Value} (h : Srch w gw b p v) : w.cell? ⟨gw, 0, none⟩ = some (.int .i64 (b : Int)) := by rw [cell_of_row w gw 0 _ _ _ h]; rfl
theorem Srch.c1 {w : World} {gw b p : Nat} {v : Value} (h : Srch w gw b p v) : w.cell? ⟨gw, 1, none⟩ = some (.int .i64 (p : Int)) := by rw [cell_of_row w gw 1 _ _ _ h]; rfl
theorem Srch.c2 {w : World} {gw b p : Nat} {v : Value} (h : Srch w gw b p v) : w.cell? ⟨gw, 2, none⟩ = some v := by rw [cell_of_row w gw 2 _ _ _ h]; rfl
theorem Srch.f {w : World} {gw b p : Nat} {v : Value} (h : Srch w gw b p v) (j : Nat) : w.frozen? ⟨gw, j, none⟩ = false := by
  unfold Srch at h
  simp [World.frozen?, h]
theorem Srch.keep {w w' : World} {gw b p : Nat} {v : Value} (h : Srch w gw b p v) (hb : Below w.heap.size w w') : Srch w' gw b p v := by
  unfold Srch at h ⊢
  rw [hb.block gw (Array.getElem?_eq_some_iff.1 h).1]
  exact h
theorem Srch.drew {w : World} {gw b p : Nat} {v : Value} (h : Srch w gw b p v) : Srch w.drew gw b p v := h
theorem Srch.set {w : World} {gw b p : Nat} {v : Value} (h : Srch w gw b p v) (u : Value) : Srch (w.setCell ⟨gw, 2, none⟩ u) gw b p u := by
  unfold Srch at h ⊢
  rw [heap_setCell_same w gw 2 _ _ u h]
  rfl
theorem Srch.other {w : World} {gw b p g j : Nat} {v u : Value} (h : Srch w gw b p v) (hne : gw ≠ g) : Srch (w.setCell ⟨g, j, none⟩ u) gw b p v := by
  unfold Srch at h ⊢
  rw [Below.heap_setCell w ⟨g, j, none⟩ u gw hne]
  exact h

theorem Srch.apart {w : World} {gw b p B : Nat} {x u : Value} {ys : List Int} (h : Srch w gw b p x) (hr : Rd w B u ys) : u.ownBlock ≠ some gw := by
  intro e
  rcases hr.2 with ⟨rfl, _⟩ | ⟨g, cap, cur, rfl, _, hh, _⟩
  · cases e
  · have e2 : g = gw := by simpa [Value.ownBlock] using e
    subst e2
    unfold Srch at h
    rw [h] at hh
    simp at hh
theorem gw_rd {w w' : World} {gw b p B : Nat} {x u : Value} {ys : List Int} (h : Srch w gw b p x) (hr : Rd w B u ys) (hg : w.grownBy w' (some gw)) : Rd w' B u ys := hr.grown hg (.inr (h.apart hr))

/-- Nothing that was there has changed but the record. -/
theorem gw_below {w w1 w2 : World} {gw : Nat} (h : w.grownBy w1 (some gw)) (hb : Below w1.heap.size w1 w2) : w.grownBy w2 (some gw) :=
  ⟨hb.os.trans h.os, hb.tape.trans h.tape, hb.output.trans h.output, Nat.le_trans h.size hb.size, fun i hi hne => (hb.block i (Nat.lt_of_lt_of_le hi h.size)).trans (h.block i hi hne)⟩
theorem gw_set {w w1 : World} {gw : Nat} (h : w.grownBy w1 (some gw)) (j : Nat) (u : Value) : w.grownBy (w1.setCell ⟨gw, j, none⟩ u) (some gw) := by
  have hb := (Below.refl gw w1).setCell (p := ⟨gw, j, none⟩) (Nat.le_refl _) u
  refine ⟨hb.os.trans h.os, hb.tape.trans h.tape, hb.output.trans h.output, Nat.le_trans h.size hb.size, fun i hi hne => ?_⟩
  rw [Below.heap_setCell w1 ⟨gw, j, none⟩ u i (fun e => hne (by rw [e]))]
  exact h.block i hi hne
theorem gw_refl (w : World) (gw : Nat) : w.grownBy w (some gw) := World.grownBy.refl _ _
theorem gw_below' {w w1 : World} {gw B : Nat} (h : w.grownBy w1 (some gw)) (hB : B ≤ gw) (hB2 : B ≤ w.heap.size) : Below B w w1 :=
  (Below.refl _ _).grown h hB2 (fun k hk => by simp at hk; omega)

theorem cntF_append (xs : List Int) : ∀ (ys zs : List Int), cntF (xs ++ ys) zs = cntF ys (cntF xs zs) := by
  induction xs with
  | nil => intro ys zs; rfl
  | cons x xs ih => intro ys zs; show cntF (xs ++ ys) (bump zs x) = _; rw [ih]; rfl
theorem cnt_snoc (b : Nat) (ds : List Nat) (d : Nat) : cnt (b : Int) (ints3 (ds ++ [d])) = bump (cnt (b : Int) (ints3 ds)) (d : Int) := by
  unfold cnt ints3
  rw [List.map_append, cntF_append]
  rfl
theorem psn_snoc (p : Nat) (ds : List Nat) (d : Nat) : psn p (ds ++ [d]) = psn p ds + d ^ p := by
  unfold psn
  simp
theorem psn_append (p : Nat) (ds es : List Nat) : psn p (ds ++ es) = psn p ds + psn p es := by
  unfold psn
  simp
theorem psn_le {p : Nat} (hp : p ≤ 6) : ∀ (ds : List Nat), (∀ d ∈ ds, d ≤ 9) → psn p ds ≤ ds.length * 531441
  | [], _ => by show 0 ≤ _; omega
  | d :: ds, h => by
    rw [psn_cons, List.length_cons, Nat.add_mul, Nat.one_mul]
    have h1 := psn_le hp ds (fun x hx => h x (by simp [hx]))
    have h2 : d ^ p ≤ 531441 := by
      have h1 := Nat.pow_le_pow_left (h d (by simp)) p
      have h2 := Nat.pow_le_pow_right (show 0 < 9 by omega) hp
      have h3 : 9 ^ 6 = 531441 := by decide
      omega
    omega
theorem ints_len3 (ds : List Nat) : (ints3 ds).length = ds.length := by simp [ints3]
theorem cnt_bd (b : Nat) : ∀ (xs ys : List Int) (m : Int), (∀ y ∈ ys, 0 ≤ y ∧ y ≤ m) → 0 ≤ m → ∀ y ∈ cntF xs ys, 0 ≤ y ∧ y ≤ m + xs.length
  | [], ys, m, h, hm => by intro y hy; have := h y hy; simp; omega
  | x :: xs, ys, m, h, hm => by
    intro y hy
    have := cnt_bd b xs (bump ys x) (m + 1) (bump_bd ys x m h hm) (by omega) y hy
    simp
    omega

/-- What is found from digits already taken is a number that is its own power sum. -/
theorem fnd_own {b p n m : Nat} {ds : List Nat} (hb : 2 ≤ b) (hb' : b ≤ 16) (hp : 1 ≤ p) (hp' : p ≤ 8) (hds : ∀ d ∈ ds, d < b) (hm : m < b) {z : Int} (h : Fnd b p n m (psn p ds) (cnt (b : Int) (ints3 ds)) z) : z ∈ ownL b p := by
  obtain ⟨es, h1, h2, h3, h4⟩ := h
  have h5 : cnt (b : Int) (dgs (b : Int) z) = cnt (b : Int) (ints3 (ds ++ es)) := by
    rw [h4]
    unfold cnt ints3
    rw [List.map_append, cntF_append]
  have hes : ∀ d ∈ es, d < b := fun d hd => by have := ((desc_iff es m).1 h2).2 d hd; omega
  rw [← psn_append] at h3
  subst h3
  have hall : ∀ x ∈ ints3 (ds ++ es), 0 ≤ x ∧ x < (b : Int) := fun x hx => by
    obtain ⟨d, hd, rfl⟩ := List.mem_map.1 hx
    rcases List.mem_append.1 hd with hd | hd
    · have := hds d hd; omega
    · have := hes d hd; omega
  have hperm := cnt_perm (dgs_allB hb) hall h5
  rw [ownL_mem hb hb' hp hp']
  refine ⟨psn p (ds ++ es), rfl, ?_⟩
  rw [← psl_dgs hb hp, psl_perm p hperm, psl_ints]
theorem rise_len {xs ys : List Int} (hx : xs.Pairwise (· < ·)) (hy : ys.Pairwise (· < ·)) (h : ∀ z ∈ xs, z ∈ ys) : xs.length ≤ ys.length := by
  have e : xs = ys.filter (fun z => decide (z ∈ xs)) := rise_unique hx (hy.sublist List.filter_sublist) (fun z => by
    rw [List.mem_filter, decide_eq_true_eq]
    exact ⟨fun hz => ⟨h z hz, hz⟩, fun hz => hz.2⟩)
  rw [e]
  exact List.length_filter_le _ _

set_option maxHeartbeats 400000 in
theorem try_leaf (gw b p gc cc B : Nat) (ds : List Nat) (m : Int) (v : Value) (fs : List Int) (w : World) (hb : 2 ≤ b) (hb' : b ≤ 10) (hp : 1 ≤ p) (hp' : p ≤ 6) (hds : ∀ d ∈ ds, d < b) (hdl : ds.length ≤ 8)
    (hS : Srch w gw b p v) (hF : Rd w B v fs) (hR : fs.Pairwise (· < ·)) (hO : ∀ z ∈ fs, z ∈ ownL b p) (hC : Rd w B (.slice (some ⟨gc, 0, none⟩) b cc) (cnt (b : Int) (ints3 ds))) (hB : B ≤ w.heap.size) :
    Calls Tryz.prog 157 #[.pointer (some ⟨gw, 0, none⟩), .int .i64 0, .int .i64 m, .int .i64 ((psn p ds : Nat) : Int), .slice (some ⟨gc, 0, none⟩) b cc] w fun e w' => e = .returned (.tuple #[]) ∧
      ∃ v' fs', Srch w' gw b p v' ∧ Rd w' B v' fs' ∧ fs'.Pairwise (· < ·) ∧ (∀ z, z ∈ fs' ↔ z ∈ fs ∨ Fnd b p 0 0 (psn p ds) (cnt (b : Int) (ints3 ds)) z) ∧ w.grownBy w' (some gw) := by
  have hsm := psn_le (p := p) hp' ds (fun d hd => by have := hds d hd; omega)
  have hfl : fs.length ≤ 100000 := Nat.le_trans (rise_len hR (cano_rise _) hO) (ownL_len hb hb' hp hp')
  have HFS := Lib.hid hS
  have HFF := Lib.hid hF
  have HFR := Lib.hid hR
  have HCC := Lib.hid hC
  have hsX : psn p ds ≤ 1000000000000 := by omega
  have hFz := Lib.hid (fun z => fnd_zero (b := b) (p := p) (m := 0) (s := psn p ds) (cs := cnt (b : Int) (ints3 ds)) (x := z))
  have HDA := Lib.hid (dgs_all (b : Int) ((psn p ds : Nat) : Int) (by omega) (by omega))
  have HDL := Lib.hid (dgs_len40 (b : Int) ((psn p ds : Nat) : Int) (by omega) (by omega) (by omega))
  have HCL := Lib.hid (show (cnt (b : Int) (ints3 ds)).length ≤ 2000000 by rw [cnt_len]; omega)
  have HCL2 := Lib.hid (show (cnt (b : Int) (dgs (b : Int) ((psn p ds : Nat) : Int))).length ≤ 2000000 by rw [cnt_len]; omega)
  obtain ⟨S, hSS⟩ : ∃ S, S = psn p ds := ⟨_, rfl⟩
  obtain ⟨cs, hcs⟩ : ∃ cs, cs = cnt (b : Int) (ints3 ds) := ⟨_, rfl⟩
  obtain ⟨es, hes⟩ : ∃ es, es = cnt (b : Int) (dgs (b : Int) (S : Int)) := ⟨_, rfl⟩
  rw [← hSS] at hFz HDA HDL hsX HCL2 ⊢
  rw [← hcs] at hFz HCC HCL ⊢
  rw [← hes] at hFz HCL2
  have hSi : (S : Int) ≤ 1000000000000 := by omega
  have hc0 := (hS.drew).c0
  have HES := Lib.hid hes
  have HB0 := Lib.hid (show Below w.heap.size w w.drew from (Below.refl _ _).drew)
  clear hS hF hR hO hC hSS hcs hes hsm hds
  cases hq : decide (es = cs)
  · have hne := of_decide_eq_false hq
    have HNE := Lib.hid (show ∀ z, ¬ Fnd b p 0 0 S cs z from fun z h => hne ((hFz.out z).1 h).2)
    clear hne
    go_enter Tryz.func157, Tryz.ntmps157
    go_wp2
    go_region_held3 (fun w' => w'.cell? ⟨gw, 0, none⟩ = some (.int .i64 (b : Int))) (first | exact hc0 | exact hc1 | exact hc2 | exact hc3) (first
      | (go_at_call 98; refine (dgOf_any (S : Int) (b : Int) _ (by omega) hSi (by omega) (by omega)).mono ?_; rintro e w1 ⟨u1, rfl, hr1, hb1⟩; have R1 := Lib.hid hr1; have B1 := Lib.hid (Below.step HB0.out HB0.out.size hb1); have hc1 := (HFS.out.keep B1.out).c0; clear hr1 hb1)
      | (go_at_call 152; refine (dgCounts_any _ _ (b : Int) _ _ R1.out (by omega) (by omega) HDA.out (by have := HDL.out; omega)).mono ?_; rw [← HES.out]; rintro e w2 ⟨u2, rfl, hr2, hb2⟩; have R2 := Lib.hid hr2; have B2 := Lib.hid (Below.step B1.out B1.out.size hb2); have hc2 := (HFS.out.keep B2.out).c0; clear hr2 hb2)
      | (go_at_call 209; refine (l1Same_any _ _ es cs _ R2.out.sl (HCC.out.keep B2.out).sl HCL2.out HCL.out).mono ?_; rw [hq]; rintro e w3 ⟨rfl, hb3⟩; have B3 := Lib.hid (Below.step B2.out B2.out.size hb3); have hc3 := (HFS.out.keep B3.out).c0; clear hb3))
    go_wp2
    first
      | go_end0
      | (refine bodyPost_ret (results_none rfl _ _ _) rfl ?_)
    exact ⟨rfl, v, fs, HFS.out.keep B3.out, HFF.out.keep B3.out, HFR.out, fun z => ⟨fun h => .inl h, fun h => h.elim id (fun h => absurd h (HNE.out z))⟩, gw_below (gw_refl w gw) B3.out⟩
  · have he := of_decide_eq_true hq
    have HYE := Lib.hid (show ∀ z, Fnd b p 0 0 S cs z ↔ z = (S : Int) from fun z => (hFz.out z).trans ⟨fun h => h.1, fun h => ⟨h, he⟩⟩)
    clear he
    go_enter Tryz.func157, Tryz.ntmps157
    go_wp2
    go_region_held3 (fun w' => w'.cell? ⟨gw, 0, none⟩ = some (.int .i64 (b : Int))) (first | exact hc0 | exact hc1 | exact hc2 | exact hc3) (first
      | (go_at_call 98; refine (dgOf_any (S : Int) (b : Int) _ (by omega) hSi (by omega) (by omega)).mono ?_; rintro e w1 ⟨u1, rfl, hr1, hb1⟩; have R1 := Lib.hid hr1; have B1 := Lib.hid (Below.step HB0.out HB0.out.size hb1); have hc1 := (HFS.out.keep B1.out).c0; clear hr1 hb1)
      | (go_at_call 152; refine (dgCounts_any _ _ (b : Int) _ _ R1.out (by omega) (by omega) HDA.out (by have := HDL.out; omega)).mono ?_; rw [← HES.out]; rintro e w2 ⟨u2, rfl, hr2, hb2⟩; have R2 := Lib.hid hr2; have B2 := Lib.hid (Below.step B1.out B1.out.size hb2); have hc2 := (HFS.out.keep B2.out).c0; clear hr2 hb2)
      | (go_at_call 209; refine (l1Same_any _ _ es cs _ R2.out.sl (HCC.out.keep B2.out).sl HCL2.out HCL.out).mono ?_; rw [hq]; rintro e w3 ⟨rfl, hb3⟩; have B3 := Lib.hid (Below.step B2.out B2.out.size hb3); have hc3 := (HFS.out.keep B3.out).c0; clear hb3))
    have S3 := Lib.hid (HFS.out.keep B3.out)
    have F3 := Lib.hid (HFF.out.keep B3.out)
    have hcf := S3.out.c2
    have hgl := S3.out.lt
    have hB3 := Nat.le_trans hB B3.out.size
    clear hc0 hc1 hc2 hc3 R1 R2
    go_wp2_with fail
    refine (l1PutV_any _ fs (S : Int) B _ F3.out hB3 (by omega) HFR.out).mono ?_
    rintro e w4 ⟨u, rfl, ys, hry, hrp, hrm, hb4⟩
    have S4 := Lib.hid (S3.out.keep hb4)
    have RY := Lib.hid hry
    have RP := Lib.hid hrp
    have RM := Lib.hid hrm
    have B4 := Lib.hid (Below.step B3.out B3.out.size hb4)
    obtain ⟨a, c4, rfl⟩ := hry.sl.len
    have hf4 := S4.out.f 2
    have hc4 := S4.out.c2
    clear hry hrp hrm hb4
    go_wp2
    first
      | go_end0
      | (refine bodyPost_ret (results_none rfl _ _ _) rfl ?_)
    exact ⟨rfl, _, ys, S4.out.set _, gw_rd S4.out RY.out (gw_set (gw_refl _ gw) 2 _), RP.out, fun z => (RM.out z).trans (or_congr Iff.rfl (HYE.out z).symm), gw_set (gw_below (gw_refl w gw) B4.out) 2 _⟩

end Go.Proofs.YtlbjeiaihenjkaaGreatDoor
