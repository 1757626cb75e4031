/-
  Slices of slices held against each other; marks in them.
-/
import Derived.Test.YtejehmplebjnmaaFF
import Derived.Test.YtejehmplebjnmaaK
namespace Go.Proofs.Ytejehmplebjnmaa
open Go.RowKit
set_option linter.unusedVariables false
set_option linter.unusedSimpArgs false
set_option maxRecDepth 100000

theorem markIntS_big (v : Value) (xs : List Int) (k : Int) (B : Nat) (w : World) (h : Rd w B v xs) (hB : B ≤ w.heap.size) (hk : 0 ≤ k) (hk2 : k ≤ 1000000000000) (hl : xs.length ≤ 2000000) :
    Calls Try.prog 22 #[v, .int .i64 k] w fun e w' => e = .returned (.int .i64 (k + xs.length)) ∧ Rd w' B v (seqF k xs.length) ∧ w.grownBy w' v.ownBlock := by
  rcases h.cases with ⟨rfl, rfl⟩ | ⟨g, cap, rfl, hg, _, _, _, _, _⟩
  · go_enter Try.func22, Try.ntmps22
    go_wp2
    refine wp_loop_rounds 1 ?_
    rw [rounds_succ]
    go_wp2
    go_ret
    exact ⟨ret_int (by simp), Rd.nil _ _, World.grownBy.refl _ _⟩
  · have H := Lib.hid h
    clear h
    go_enter Try.func22, Try.ntmps22
    go_wp2
    go_loopw [1, 5] (fun m i wr => ∃ (j : Nat) (ys : List Int), j ≤ xs.length ∧ i = .int .i64 j ∧ m = .int .i64 (k + j) ∧ Mk k xs ys j ∧ Rd wr B (.slice (some ⟨g, 0, none⟩) xs.length cap) ys ∧ w.grownBy wr (some g)) (fun _ i _ => xs.length - (intOf i).toNat)
    case atStart => exact ⟨0, xs, Nat.zero_le _, rfl, by simp, ⟨rfl, fun t ht => by omega⟩, H.out, World.grownBy.refl _ _⟩
    case round =>
      obtain ⟨j, ys, hj, rfl, rfl, hm, hr, hgr⟩ := hrel
      have HM := Lib.hid hm
      have HR := Lib.hid hr
      have HG := Lib.hid hgr
      clear hm hr hgr
      by_cases hlt : j < xs.length
      · obtain ⟨q, hd⟩ : ∃ q, wr.cell? ⟨g, j, none⟩ = some (.int .i64 q) := ⟨_, HR.out.at.2.2.2.2.1 j (by have := HM.out.1; omega)⟩
        have hf := HR.out.at.2.2.2.2.2 j
        go_wp2
        go_roundw
        case rel =>
          have h1 := HR.out.set j (k + j)
          exact ⟨j + 1, _, by omega, by go_num, by go_num, HM.out.step hlt, h1.1, grown_trans HG.out h1.2⟩
        case measure => simp [intOf]; omega
      · obtain rfl : j = xs.length := by omega
        go_wp2
        go_ret
        exact ⟨rfl, by rw [← HM.out.done]; exact HR.out, HG.out⟩

theorem heldIntS_big (v : Value) (n : Nat) (k : Int) (B : Nat) (w : World) (h : Rd w B v (seqF k n)) (hk : 0 ≤ k) (hk2 : k ≤ 1000000000000) (hl : n ≤ 2000000) :
    Calls Try.prog 23 #[v, .int .i64 k] w fun e w' => e = .returned (.int .i64 (k + n)) ∧ w = w' := by
  rcases h.cases with ⟨rfl, hx⟩ | ⟨g, cap, rfl, hg, _, _, _, hc, _⟩
  · have hn : n = 0 := by have := congrArg List.length hx; rw [seqF_len] at this; simpa using this
    subst hn
    go_enter Try.func23, Try.ntmps23
    go_wp2
    refine wp_loop_rounds 1 ?_
    rw [rounds_succ]
    go_wp2
    go_ret
    exact ⟨ret_int (by simp), rfl⟩
  · have HC := Lib.hid hc
    have HL := Lib.hid (seqF_len k n)
    clear hc h
    rw [HL.out]
    go_enter Try.func23, Try.ntmps23
    go_wp2
    go_loop [1, 5] (fun m i => ∃ j : Nat, j ≤ n ∧ i = .int .i64 j ∧ m = .int .i64 (k + j)) (fun _ i => n - (intOf i).toNat)
    case atStart => exact ⟨0, Nat.zero_le _, rfl, by simp⟩
    case round =>
      obtain ⟨j, hj, rfl, rfl⟩ := hrel
      by_cases hlt : j < n
      · have hcell : w.cell? ⟨g, j, none⟩ = some (.int .i64 (k + j)) := by rw [HC.out j (by rw [HL.out]; exact hlt), seqF_at]
        go_wp2
        go_round
        case rel => exact ⟨j + 1, by omega, by go_num, by go_num⟩
        case measure => simp [intOf]; omega
      · obtain rfl : j = n := by omega
        go_wp2
        go_ret
        exact ⟨rfl, rfl⟩

/-- A slice of slices by the lists at its places. -/
structure LLf (w : World) (B : Nat) (v : Value) (vs : List Value) (Z : Nat → List Int) : Prop where
  row : Rg 25 w B v vs
  at' : ∀ (i : Nat) (u : Value), vs[i]? = some u → Rd w B u (Z i)
  apart : ∀ (i j : Nat) (u z : Value), i < j → vs[i]? = some u → vs[j]? = some z → u.ownBlock = none ∨ u.ownBlock ≠ z.ownBlock

def lsZ (ls : List (List Nat)) (i : Nat) : List Int := nts (ls.getD i [])
theorem LLv.f {w : World} {B : Nat} {v : Value} {vs : List Value} {ls : List (List Nat)} (h : LLv w B v vs ls) : LLf w B v vs (lsZ ls) :=
  ⟨h.row, fun i u hu => by
    obtain ⟨l, hl, hr⟩ := h.rd hu
    unfold lsZ
    rw [List.getD_eq_getElem?_getD, hl]
    exact hr, h.apart⟩

theorem LLf.shape {w : World} {B : Nat} {v : Value} {vs : List Value} {Z : Nat → List Int} (h : LLf w B v vs Z) : ∃ a cap, v = .slice a vs.length cap ∧ (vs = [] ∨ ∃ gv, a = some ⟨gv, 0, none⟩) := by
  rcases h.row.cases with ⟨rfl, rfl⟩ | ⟨gv, cv, rfl⟩
  · exact ⟨none, 0, rfl, .inl rfl⟩
  · exact ⟨some ⟨gv, 0, none⟩, cv, rfl, .inr ⟨gv, rfl⟩⟩

theorem LLf.keep {w w' : World} {B : Nat} {v : Value} {vs : List Value} {Z : Nat → List Int} (h : LLf w B v vs Z) (hb : Below w.heap.size w w') : LLf w' B v vs Z :=
  ⟨h.row.keep hb, fun i u hu => (h.at' i u hu).keep hb, h.apart⟩
theorem LLf.mono {w : World} {B C : Nat} {v : Value} {vs : List Value} {Z : Nat → List Int} (h : LLf w B v vs Z) (hC : C ≤ B) : LLf w C v vs Z :=
  ⟨h.row.mono hC, fun i u hu => (h.at' i u hu).mono hC, h.apart⟩

/-- All blocks lie below C. -/
def Und (C : Nat) (v : Value) (vs : List Value) : Prop := (∀ k, v.ownBlock = some k → k < C) ∧ ∀ (i : Nat) (u : Value), vs[i]? = some u → ∀ k, u.ownBlock = some k → k < C
theorem LLf.und {w : World} {B : Nat} {v : Value} {vs : List Value} {Z : Nat → List Int} (h : LLf w B v vs Z) : Und w.heap.size v vs :=
  ⟨fun k hk => (h.row.lt k hk).2, fun i u hu k hk => ((h.at' i u hu).lt k hk).2⟩
theorem LLf.keepU {w w' : World} {B C : Nat} {v : Value} {vs : List Value} {Z : Nat → List Int} (h : LLf w B v vs Z) (hu : Und C v vs) (hb : Below C w w') : LLf w' B v vs Z := by
  refine ⟨?_, fun i u hi => (h.at' i u hi).keepB hb (hu.2 i u hi), h.apart⟩
  refine ⟨h.row.1, ?_⟩
  rcases h.row.2 with h2 | ⟨g, cap, cur, rfl, hg, hh, r⟩
  · exact .inl h2
  · exact .inr ⟨g, cap, cur, rfl, hg, by rw [hb.block g (hu.1 g rfl)]; exact hh, r⟩
/-- A marked slice of integers leaves them alone, if it lies apart. -/
theorem LLf.grownR {w w' : World} {B C : Nat} {v x : Value} {vs : List Value} {Z : Nat → List Int} {xs : List Int} (h : LLf w B v vs Z) (hx : Rd w C x xs) (hg : w.grownBy w' x.ownBlock) (ha : ∀ (i : Nat) (u : Value), vs[i]? = some u → u.ownBlock = none ∨ u.ownBlock ≠ x.ownBlock) : LLf w' B v vs Z :=
  ⟨h.row.grown hg (row_not_rd hx h.row), fun i u hu => (h.at' i u hu).grown hg (ha i u hu), h.apart⟩

theorem LLf.cell {w : World} {B gv cv N : Nat} {vs : List Value} {Z : Nat → List Int} (h : LLf w B (.slice (some ⟨gv, 0, none⟩) N cv) vs Z) {i : Nat} {u : Value} (hi : vs[i]? = some u) : w.cell? ⟨gv, i, none⟩ = some u := by
  obtain ⟨i1, i2⟩ := List.getElem?_eq_some_iff.1 hi
  obtain ⟨_, _, _, _, _, hc, _⟩ := h.row.at
  rw [hc i i1, i2]

theorem Rd.shape' {w : World} {B : Nat} {v : Value} {xs : List Int} (h : Rd w B v xs) : ∃ a cap, v = .slice a xs.length cap := by
  rcases h.cases with ⟨rfl, rfl⟩ | ⟨g, cap, rfl, _⟩
  · exact ⟨_, _, rfl⟩
  · exact ⟨_, _, rfl⟩

theorem eqIntS_self (v u : Value) (xs : List Int) (w : World) (hv : Sl w v xs) (hu : Sl w u xs) (hl : xs.length ≤ 2000000) :
    Calls Try.prog 21 #[v, u] w fun e w' => e = .returned (.bool true) ∧ Below w.heap.size w w' :=
  (eqIntS_any v u xs xs w hv hu hl hl).mono fun _ _ ⟨h, hb⟩ => ⟨by rw [h]; simp, hb⟩

theorem eqIntSS_same (v u : Value) (vs us : List Value) (Z : Nat → List Int) (B C : Nat) (w : World) (h : LLf w B v vs Z) (h2 : LLf w C u us Z) (hn : vs.length = us.length) (hm : vs.length ≤ 40000) (hz : ∀ i, (Z i).length ≤ 2000000) :
    Calls Try.prog 32 #[v, u] w fun e w' => e = .returned (.bool true) ∧ Below w.heap.size w w' := by
  have H := Lib.hid h
  have H2 := Lib.hid h2
  have HZ := Lib.hid hz
  obtain ⟨a, cap, rfl, ha⟩ := h.shape
  obtain ⟨a2, cap2, rfl, ha2⟩ := h2.shape
  have HA := Lib.hid ha
  have HA2 := Lib.hid ha2
  obtain ⟨N, hN⟩ : ∃ N, N = vs.length := ⟨_, rfl⟩
  have HN := Lib.hid hN
  have HN2 := Lib.hid (hN.trans hn)
  rw [← hN] at hm
  have hne : ((N : Int) != (N : Int)) = false := bne_no rfl
  rw [← hn, ← hN]
  rw [← hN] at H
  rw [← hn, ← hN] at H2
  clear h h2 ha ha2 hn hN hz
  go_enter Try.func32, Try.ntmps32
  go_wp2
  go_loopw [5] (fun i wr => ∃ k : Nat, k ≤ N ∧ i = .int .i64 k ∧ Below w.heap.size w wr) (fun i _ => N - (intOf i).toNat)
  case atStart => exact ⟨0, Nat.zero_le _, rfl, Below.refl _ _⟩
  case round =>
    obtain ⟨k, hk, rfl, hb⟩ := hrel
    have HB := Lib.hid hb
    clear hb
    by_cases hlt : k < N
    · rcases HA.out with hx | ⟨gv, rfl⟩
      · have := HN.out; rw [hx] at this; simp at this; omega
      rcases HA2.out with hx | ⟨gv2, rfl⟩
      · have := HN2.out; rw [hx] at this; simp at this; omega
      obtain ⟨z, hz⟩ : ∃ z, vs[k]? = some z := ⟨vs[k]'(by rw [← HN.out]; exact hlt), by simp⟩
      obtain ⟨z2, hz2⟩ : ∃ z, us[k]? = some z := ⟨us[k]'(by rw [← HN2.out]; exact hlt), by simp⟩
      have hc1 := (H.out.keep HB.out).cell hz
      have hc2 := (H2.out.keep HB.out).cell hz2
      have R1 := Lib.hid ((H.out.keep HB.out).at' k z hz)
      have R2 := Lib.hid ((H2.out.keep HB.out).at' k z2 hz2)
      obtain ⟨b1, d1, rfl⟩ := R1.out.shape'
      obtain ⟨b2, d2, rfl⟩ := R2.out.shape'
      clear hz hz2
      have R1d := Lib.hid (R1.out.drew.sl)
      have R2d := Lib.hid (R2.out.drew.sl)
      have HBd := Lib.hid (HB.out.drew)
      go_wp2
      go_region_with (go_at_call 21; refine (eqIntS_self _ _ (Z k) wr.drew R1d.out R2d.out (HZ.out k)).mono ?_; rintro e w1 ⟨rfl, hb⟩; have HB1 := Lib.hid (Below.step HBd.out HBd.out.size hb); clear hb)
      all_goals
        go_wp2
        go_roundw
        case rel => exact ⟨k + 1, by omega, by go_num, HB1.out⟩
        case measure => simp [intOf]; omega
    · obtain rfl : k = N := by omega
      go_wp2
      go_ret
      exact ⟨rfl, HB.out⟩

/-- Where the marks of the i-th slice begin. -/
def offZ (k : Int) (Z : Nat → List Int) : Nat → Int
  | 0 => k
  | i + 1 => offZ k Z i + ((Z i).length : Nat)
def mkZ (k : Int) (Z : Nat → List Int) (j i : Nat) : List Int := if i < j then seqF (offZ k Z i) (Z i).length else Z i

theorem LLf.congr {w : World} {B : Nat} {v : Value} {vs : List Value} {Z Y : Nat → List Int} (h : LLf w B v vs Z) (he : ∀ i, i < vs.length → Z i = Y i) : LLf w B v vs Y :=
  ⟨h.row, fun i u hu => by rw [← he i (List.getElem?_eq_some_iff.1 hu).1]; exact h.at' i u hu, h.apart⟩

theorem LLf.marked {w w' : World} {B j : Nat} {v u : Value} {vs : List Value} {k : Int} {Z : Nat → List Int} (h : LLf w B v vs (mkZ k Z j)) (hj : vs[j]? = some u) (hr : Rd w' B u (seqF (offZ k Z j) (Z j).length)) (hg : w.grownBy w' u.ownBlock) : LLf w' B v vs (mkZ k Z (j + 1)) := by
  refine ⟨h.row.grown hg (row_not_rd (h.at' j u hj) h.row), fun i z hz => ?_, h.apart⟩
  by_cases e : i = j
  · subst e
    rw [hj] at hz
    simp only [Option.some.injEq] at hz
    subst hz
    unfold mkZ
    rw [if_pos (by omega)]
    exact hr
  · have h1 := h.at' i z hz
    have hap : z.ownBlock = none ∨ z.ownBlock ≠ u.ownBlock := by
      by_cases hij : i < j
      · exact h.apart i j z u hij hz hj
      · exact apart_sym2 (h.apart j i u z (by omega) hj hz)
    have h2 := h1.grown hg hap
    unfold mkZ at h2 ⊢
    by_cases hij : i < j
    · rw [if_pos hij] at h2; rw [if_pos (by omega)]; exact h2
    · rw [if_neg hij] at h2; rw [if_neg (by omega)]; exact h2

theorem markIntSS_any (v : Value) (vs : List Value) (Z : Nat → List Int) (k : Int) (B : Nat) (w : World) (h : LLf w B v vs Z) (hB : B ≤ w.heap.size) (hm : vs.length ≤ 40000) (hz : ∀ i, (Z i).length ≤ 2000000) (ho : ∀ i, i ≤ vs.length → 0 ≤ offZ k Z i ∧ offZ k Z i ≤ 100000000000) :
    Calls Try.prog 33 #[v, .int .i64 k] w fun e w' => e = .returned (.int .i64 (offZ k Z vs.length)) ∧ LLf w' B v vs (mkZ k Z vs.length) ∧ Below B w w' := by
  have H := Lib.hid (h.congr (Y := mkZ k Z 0) (fun i _ => by unfold mkZ; rw [if_neg (Nat.not_lt_zero _)]))
  have HZ := Lib.hid hz
  have HO := Lib.hid ho
  obtain ⟨a, cap, rfl, ha⟩ := h.shape
  have HA := Lib.hid ha
  obtain ⟨N, hN⟩ : ∃ N, N = vs.length := ⟨_, rfl⟩
  have HN := Lib.hid hN
  rw [← hN] at hm HO H ⊢
  clear h ha hN hz ho
  go_enter Try.func33, Try.ntmps33
  go_wp2
  go_loopw [1, 5] (fun m i wr => ∃ j : Nat, j ≤ N ∧ i = .int .i64 j ∧ m = .int .i64 (offZ k Z j) ∧ LLf wr B (.slice a N cap) vs (mkZ k Z j) ∧ Below B w wr) (fun _ i _ => N - (intOf i).toNat)
  case atStart => exact ⟨0, Nat.zero_le _, rfl, rfl, H.out, Below.refl _ _⟩
  case round =>
    obtain ⟨j, hj, rfl, rfl, hl, hb⟩ := hrel
    have HL := Lib.hid hl
    have HB := Lib.hid hb
    clear hl hb
    obtain ⟨o, hoo⟩ : ∃ o, o = offZ k Z j := ⟨_, rfl⟩
    have HOO := Lib.hid hoo
    rw [← hoo]
    obtain ⟨o1, o2⟩ := HO.out j hj
    rw [← hoo] at o1 o2
    clear hoo
    by_cases hlt : j < N
    · rcases HA.out with hx | ⟨gv, rfl⟩
      · have := HN.out; rw [hx] at this; simp at this; omega
      obtain ⟨z, hz⟩ : ∃ z, vs[j]? = some z := ⟨vs[j]'(by rw [← HN.out]; exact hlt), by simp⟩
      have HZJ := Lib.hid hz
      have hc1 := HL.out.cell hz
      have hr0 := HL.out.at' j z hz
      unfold mkZ at hr0
      rw [if_neg (Nat.lt_irrefl _)] at hr0
      have R1 := Lib.hid hr0
      obtain ⟨b1, d1, rfl⟩ := R1.out.shape'
      have hzl := HZ.out j
      clear hz hr0
      go_wp2_with (go_at_call 22; refine (markIntS_big _ (Z j) _ B _ R1.out (Nat.le_trans hB HB.out.size) o1 (by omega) hzl).mono ?_; rintro e w1 ⟨rfl, hr, hg⟩)
      have HL1 := Lib.hid (HL.out.marked HZJ.out (HOO.out ▸ hr) hg)
      have HB1 := Lib.hid (HB.out.trans ((Below.refl _ _).grown hg (Nat.le_trans hB HB.out.size) (fun q hq => (R1.out.lt q hq).1)))
      clear hr hg
      go_roundw
      case rel => exact ⟨j + 1, by omega, by go_num, by rw [HOO.out]; rfl, HL1.out, HB1.out⟩
      case measure => simp [intOf]; omega
    · obtain rfl : j = N := by omega
      go_wp2
      go_ret
      exact ⟨ret_int HOO.out, HL.out, HB.out⟩

theorem heldIntSS_any (v : Value) (vs : List Value) (Z : Nat → List Int) (k : Int) (B : Nat) (w : World) (h : LLf w B v vs (mkZ k Z vs.length)) (hm : vs.length ≤ 40000) (hz : ∀ i, (Z i).length ≤ 2000000) (ho : ∀ i, i ≤ vs.length → 0 ≤ offZ k Z i ∧ offZ k Z i ≤ 100000000000) :
    Calls Try.prog 34 #[v, .int .i64 k] w fun e w' => e = .returned (.int .i64 (offZ k Z vs.length)) ∧ w = w' := by
  have H := Lib.hid h
  have HZ := Lib.hid hz
  have HO := Lib.hid ho
  obtain ⟨a, cap, rfl, ha⟩ := h.shape
  have HA := Lib.hid ha
  obtain ⟨N, hN⟩ : ∃ N, N = vs.length := ⟨_, rfl⟩
  have HN := Lib.hid hN
  rw [← hN] at hm HO H ⊢
  clear h ha hN hz ho
  go_enter Try.func34, Try.ntmps34
  go_wp2
  go_loop [1, 5] (fun m i => ∃ j : Nat, j ≤ N ∧ i = .int .i64 j ∧ m = .int .i64 (offZ k Z j)) (fun _ i => N - (intOf i).toNat)
  case atStart => exact ⟨0, Nat.zero_le _, rfl, rfl⟩
  case round =>
    obtain ⟨j, hj, rfl, rfl⟩ := hrel
    obtain ⟨o, hoo⟩ : ∃ o, o = offZ k Z j := ⟨_, rfl⟩
    have HOO := Lib.hid hoo
    rw [← hoo]
    obtain ⟨o1, o2⟩ := HO.out j hj
    rw [← hoo] at o1 o2
    clear hoo
    by_cases hlt : j < N
    · rcases HA.out with hx | ⟨gv, rfl⟩
      · have := HN.out; rw [hx] at this; simp at this; omega
      obtain ⟨z, hz⟩ : ∃ z, vs[j]? = some z := ⟨vs[j]'(by rw [← HN.out]; exact hlt), by simp⟩
      have hc1 := H.out.cell hz
      have hr0 := H.out.at' j z hz
      unfold mkZ at hr0
      rw [if_pos hlt, ← HOO.out] at hr0
      have R1 := Lib.hid hr0
      obtain ⟨b1, d1, rfl⟩ := R1.out.shape'
      have hzl := HZ.out j
      have hpos : ¬ o + ((Z j).length : Int) < 0 := by omega
      clear hz hr0
      go_wp2_with (go_at_call 23; refine (heldIntS_big _ _ _ B _ R1.out o1 (by omega) hzl).mono ?_; rintro e w1 ⟨rfl, rfl⟩)
      go_round
      case rel => exact ⟨j + 1, by omega, by go_num, by rw [HOO.out]; rfl⟩
      case measure => simp [intOf]; omega
    · obtain rfl : j = N := by omega
      go_wp2
      go_ret
      exact ⟨ret_int HOO.out, rfl⟩

end Go.Proofs.Ytejehmplebjnmaa
