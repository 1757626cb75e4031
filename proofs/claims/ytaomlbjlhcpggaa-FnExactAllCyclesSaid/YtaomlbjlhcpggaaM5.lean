/-
  Joint text of MX PLAllCycles (written by wip/tools/merge.py).
-/
import Derived.Test.YtaomlbjlhcpggaaM4
/- from XMX -/
namespace Go.Proofs.Ytaomlbjlhcpggaa
open Go.RowKit
set_option linter.unusedVariables false
set_option linter.unusedSimpArgs false
set_option maxRecDepth 100000

/-- What marking the rows us leaves alone: rows apart from them, and all outer rows. -/
structure KeepR (w w' : World) (us : List Value) : Prop where
  rd : ∀ (C : Nat) (x : Value) (xs : List Int), (∀ (i : Nat) (z : Value), us[i]? = some z → x.ownBlock = none ∨ x.ownBlock ≠ z.ownBlock) → Rd w C x xs → Rd w' C x xs
  r2 : ∀ (C : Nat) (x : Value) (xs : List Value), Rg 33 w C x xs → Rg 33 w' C x xs
  r3 : ∀ (C : Nat) (x : Value) (xs : List Value), Rg 28 w C x xs → Rg 28 w' C x xs
theorem KeepR.refl (w : World) (us : List Value) : KeepR w w us := ⟨fun _ _ _ _ h => h, fun _ _ _ h => h, fun _ _ _ h => h⟩
theorem KeepR.step {w w1 w2 : World} {us : List Value} {B i : Nat} {z : Value} {zs : List Int} (h : KeepR w w1 us) (hi : us[i]? = some z) (hz : Rd w1 B z zs) (hg : w1.grownBy w2 z.ownBlock) : KeepR w w2 us :=
  ⟨fun C x xs ha hx => (h.rd C x xs ha hx).grown hg (ha i z hi),
   fun C x xs hx => (h.r2 C x xs hx).grown hg (row_not_rd hz (h.r2 C x xs hx)),
   fun C x xs hx => (h.r3 C x xs hx).grown hg (rows_apart (by decide) (h.r3 C x xs hx) (rd_rg hz))⟩

theorem markIntSS_fr (v : Value) (vs : List Value) (Z : Nat → List Int) (k : Int) (B : Nat) (w : World) (h : LLf w B v vs Z) (hB : B ≤ w.heap.size) (hm : vs.length ≤ 40000) (hz : ∀ i, (Z i).length ≤ 2000000) (ho : ∀ i, i ≤ vs.length → 0 ≤ offZ k Z i ∧ offZ k Z i ≤ 100000000000) :
    Calls Try.prog 15 #[v, .int .i64 k] w fun e w' => e = .returned (.int .i64 (offZ k Z vs.length)) ∧ LLf w' B v vs (mkZ k Z vs.length) ∧ Below B w w' ∧ KeepR w w' vs := by
  have H := Lib.hid (h.congr (Y := mkZ k Z 0) (fun i _ => by unfold mkZ; rw [if_neg (Nat.not_lt_zero _)]))
  have HZ := Lib.hid hz
  have HO := Lib.hid ho
  obtain ⟨a, cap, rfl, ha⟩ := h.shape
  have HA := Lib.hid ha
  obtain ⟨N, hN⟩ : ∃ N, N = vs.length := ⟨_, rfl⟩
  have HN := Lib.hid hN
  rw [← hN] at hm HO H ⊢
  clear h ha hN hz ho
  go_enter Try.func15, Try.ntmps15
  go_wp2
  go_loopw [1, 5] (fun m i wr => ∃ j : Nat, j ≤ N ∧ i = .int .i64 j ∧ m = .int .i64 (offZ k Z j) ∧ LLf wr B (.slice a N cap) vs (mkZ k Z j) ∧ Below B w wr ∧ KeepR w wr vs) (fun _ i _ => N - (intOf i).toNat)
  case atStart => exact ⟨0, Nat.zero_le _, rfl, rfl, H.out, Below.refl _ _, KeepR.refl _ _⟩
  case round =>
    obtain ⟨j, hj, rfl, rfl, hl, hb, hkp⟩ := hrel
    have HKP := Lib.hid hkp
    clear hkp
    have HL := Lib.hid hl
    have HB := Lib.hid hb
    clear hl hb
    obtain ⟨o, hoo⟩ : ∃ o, o = offZ k Z j := ⟨_, rfl⟩
    have HOO := Lib.hid hoo
    rw [← hoo]
    obtain ⟨o1, o2⟩ := HO.out j hj
    rw [← hoo] at o1 o2
    clear hoo
    by_cases hlt : j < N
    · rcases HA.out with hx | ⟨gv, rfl⟩
      · have := HN.out; rw [hx] at this; simp at this; omega
      obtain ⟨z, hz⟩ : ∃ z, vs[j]? = some z := ⟨vs[j]'(by rw [← HN.out]; exact hlt), by simp⟩
      have HZJ := Lib.hid hz
      have hc1 := HL.out.cell hz
      have hr0 := HL.out.at' j z hz
      unfold mkZ at hr0
      rw [if_neg (Nat.lt_irrefl _)] at hr0
      have R1 := Lib.hid hr0
      obtain ⟨b1, d1, rfl⟩ := R1.out.shape'
      have hzl := HZ.out j
      clear hz hr0
      go_wp2_with (go_at_call 20; refine (markIntS_big _ (Z j) _ B _ R1.out (Nat.le_trans hB HB.out.size) o1 (by omega) hzl).mono ?_; rintro e w1 ⟨rfl, hr, hg⟩)
      have HL1 := Lib.hid (HL.out.marked HZJ.out (HOO.out ▸ hr) hg)
      have HB1 := Lib.hid (HB.out.trans ((Below.refl _ _).grown hg (Nat.le_trans hB HB.out.size) (fun q hq => (R1.out.lt q hq).1)))
      have HK1 := Lib.hid (HKP.out.step HZJ.out R1.out hg)
      clear hr hg
      go_roundw
      case rel => exact ⟨j + 1, by omega, by go_num, by rw [HOO.out]; rfl, HL1.out, HB1.out, HK1.out⟩
      case measure => simp [intOf]; omega
    · obtain rfl : j = N := by omega
      go_wp2
      go_ret
      exact ⟨ret_int HOO.out, HL.out, HB.out, HKP.out⟩

structure L3f (w : World) (B : Nat) (v : Value) (vs : List Value) (US : Nat → List Value) (Z : Nat → Nat → List Int) : Prop where
  row : Rg 28 w B v vs
  at' : ∀ (i : Nat) (u : Value), vs[i]? = some u → LLf w B u (US i) (Z i)
  apart2 : ∀ (i j a c : Nat) (x y : Value), i < j → j < vs.length → (US i)[a]? = some x → (US j)[c]? = some y → x.ownBlock = none ∨ x.ownBlock ≠ y.ownBlock
def Z3 (ls : List (List (List Int))) (i : Nat) : Nat → List Int := lsZ (ls.getD i [])
theorem LL3.f {w : World} {B : Nat} {v : Value} {vs : List Value} {US : Nat → List Value} {ls : List (List (List Int))} (h : LL3 w B v vs US ls) : L3f w B v vs US (Z3 ls) :=
  ⟨h.row, fun i u hu => by
    obtain ⟨l, hl, hr⟩ := h.ll hu
    have := hr.f
    unfold Z3
    rw [List.getD_eq_getElem?_getD, hl]
    exact this, h.apart2⟩
theorem L3f.shape {w : World} {B : Nat} {v : Value} {vs : List Value} {US : Nat → List Value} {Z : Nat → Nat → List Int} (h : L3f w B v vs US Z) : ∃ a cap, v = .slice a vs.length cap ∧ (vs = [] ∨ ∃ gv, a = some ⟨gv, 0, none⟩) := by
  rcases h.row.cases with ⟨rfl, rfl⟩ | ⟨gv, cv, rfl⟩
  · exact ⟨none, 0, rfl, .inl rfl⟩
  · exact ⟨some ⟨gv, 0, none⟩, cv, rfl, .inr ⟨gv, rfl⟩⟩
theorem LLx.shape {w : World} {B : Nat} {v : Value} {vs : List Value} {ls : List (List (List Int))} (h : LLx w B v vs ls) : ∃ a cap, v = .slice a vs.length cap ∧ (vs = [] ∨ ∃ gv, a = some ⟨gv, 0, none⟩) := by
  rcases h.row.cases with ⟨rfl, rfl⟩ | ⟨gv, cv, rfl⟩
  · exact ⟨none, 0, rfl, .inl rfl⟩
  · exact ⟨some ⟨gv, 0, none⟩, cv, rfl, .inr ⟨gv, rfl⟩⟩
theorem L3f.keep {w w' : World} {B : Nat} {v : Value} {vs : List Value} {US : Nat → List Value} {Z : Nat → Nat → List Int} (h : L3f w B v vs US Z) (hb : Below w.heap.size w w') : L3f w' B v vs US Z :=
  ⟨h.row.keep hb, fun i u hu => (h.at' i u hu).keep hb, h.apart2⟩
theorem L3f.cell {w : World} {B gv cv N : Nat} {vs : List Value} {US : Nat → List Value} {Z : Nat → Nat → List Int} (h : L3f w B (.slice (some ⟨gv, 0, none⟩) N cv) vs US Z) {i : Nat} {u : Value} (hi : vs[i]? = some u) : w.cell? ⟨gv, i, none⟩ = some u := by
  obtain ⟨i1, i2⟩ := List.getElem?_eq_some_iff.1 hi
  obtain ⟨_, _, _, _, _, hc, _⟩ := h.row.at
  rw [hc i i1, i2]
theorem LLx.cell {w : World} {B gv cv N : Nat} {vs : List Value} {ls : List (List (List Int))} (h : LLx w B (.slice (some ⟨gv, 0, none⟩) N cv) vs ls) {i : Nat} {u : Value} (hi : vs[i]? = some u) : w.cell? ⟨gv, i, none⟩ = some u := by
  obtain ⟨i1, i2⟩ := List.getElem?_eq_some_iff.1 hi
  obtain ⟨_, _, _, _, _, hc, _⟩ := h.row.at
  rw [hc i i1, i2]
theorem LLx.at3 {w : World} {B i : Nat} {v u : Value} {vs : List Value} {ls : List (List (List Int))} (h : LLx w B v vs ls) (hi : vs[i]? = some u) : ∃ us, LLf w B u us (Z3 ls i) ∧ us.length = (ls.getD i []).length := by
  obtain ⟨l, us, hl, hr⟩ := h.ll hi
  refine ⟨us, ?_, ?_⟩
  · have := hr.f
    unfold Z3
    rw [List.getD_eq_getElem?_getD, hl]
    exact this
  · rw [List.getD_eq_getElem?_getD, hl, hr.len]; rfl
theorem L3f.congr {w : World} {B : Nat} {v : Value} {vs : List Value} {US : Nat → List Value} {Z Y : Nat → Nat → List Int} (h : L3f w B v vs US Z) (he : ∀ i, i < vs.length → Z i = Y i) : L3f w B v vs US Y :=
  ⟨h.row, fun i u hu => by rw [← he i (List.getElem?_eq_some_iff.1 hu).1]; exact h.at' i u hu, h.apart2⟩

/-- Where the marks of the i-th slice of slices begin. -/
def offY (k : Int) (US : Nat → List Value) (Z : Nat → Nat → List Int) : Nat → Int
  | 0 => k
  | i + 1 => offZ (offY k US Z i) (Z i) (US i).length
def mkY (k : Int) (US : Nat → List Value) (Z : Nat → Nat → List Int) (j i : Nat) : Nat → List Int := if i < j then mkZ (offY k US Z i) (Z i) (US i).length else Z i

theorem L3f.marked {w w' : World} {B j : Nat} {v u : Value} {vs : List Value} {US : Nat → List Value} {k : Int} {Z : Nat → Nat → List Int} (h : L3f w B v vs US (mkY k US Z j)) (hj : vs[j]? = some u) (hr : LLf w' B u (US j) (mkZ (offY k US Z j) (Z j) (US j).length)) (hk : KeepR w w' (US j)) : L3f w' B v vs US (mkY k US Z (j + 1)) := by
  have hjl := (List.getElem?_eq_some_iff.1 hj).1
  refine ⟨hk.r3 _ _ _ h.row, fun i z hz => ?_, h.apart2⟩
  have hil := (List.getElem?_eq_some_iff.1 hz).1
  by_cases e : i = j
  · subst e
    rw [hj] at hz
    simp only [Option.some.injEq] at hz
    subst hz
    unfold mkY
    rw [if_pos (by omega)]
    exact hr
  · have h1 := h.at' i z hz
    have h2 : LLf w' B z (US i) (mkY k US Z j i) := ⟨hk.r2 _ _ _ h1.row, fun q x hx => hk.rd _ _ _ (fun c y hy => by
      by_cases hij : i < j
      · exact h.apart2 i j q c x y hij hjl hx hy
      · exact apart_sym2 (h.apart2 j i c q y x (by omega) hil hy hx)) (h1.at' q x hx), h1.apart⟩
    unfold mkY at h2 ⊢
    by_cases hij : i < j
    · rw [if_pos hij] at h2; rw [if_pos (by omega)]; exact h2
    · rw [if_neg hij] at h2; rw [if_neg (by omega)]; exact h2

theorem markIntSSS_any (v : Value) (vs : List Value) (US : Nat → List Value) (Z : Nat → Nat → List Int) (k : Int) (B : Nat) (w : World) (h : L3f w B v vs US Z) (hB : B ≤ w.heap.size) (hm : vs.length ≤ 40000) (hz : ∀ i q, (Z i q).length ≤ 2000000) (hu : ∀ i, (US i).length ≤ 40000) (ho : ∀ i q, i ≤ vs.length → q ≤ (US i).length → 0 ≤ offZ (offY k US Z i) (Z i) q ∧ offZ (offY k US Z i) (Z i) q ≤ 100000000000) :
    Calls Try.prog 10 #[v, .int .i64 k] w fun e w' => e = .returned (.int .i64 (offY k US Z vs.length)) ∧ L3f w' B v vs US (mkY k US Z vs.length) ∧ Below B w w' := by
  have H := Lib.hid (h.congr (Y := mkY k US Z 0) (fun i _ => by unfold mkY; rw [if_neg (Nat.not_lt_zero _)]))
  have HZ := Lib.hid hz
  have HO := Lib.hid ho
  have HU := Lib.hid hu
  obtain ⟨a, cap, rfl, ha⟩ := h.shape
  have HA := Lib.hid ha
  obtain ⟨N, hN⟩ : ∃ N, N = vs.length := ⟨_, rfl⟩
  have HN := Lib.hid hN
  rw [← hN] at hm HO H ⊢
  clear h ha hN hz ho hu
  go_enter Try.func10, Try.ntmps10
  go_wp2
  go_loopw [1, 5] (fun m i wr => ∃ j : Nat, j ≤ N ∧ i = .int .i64 j ∧ m = .int .i64 (offY k US Z j) ∧ L3f wr B (.slice a N cap) vs US (mkY k US Z j) ∧ Below B w wr) (fun _ i _ => N - (intOf i).toNat)
  case atStart => exact ⟨0, Nat.zero_le _, rfl, rfl, H.out, Below.refl _ _⟩
  case round =>
    obtain ⟨j, hj, rfl, rfl, hl, hb⟩ := hrel
    have HL := Lib.hid hl
    have HB := Lib.hid hb
    clear hl hb
    obtain ⟨o, hoo⟩ : ∃ o, o = offY k US Z j := ⟨_, rfl⟩
    have HOO := Lib.hid hoo
    rw [← hoo]
    have HO1 := Lib.hid (HO.out j)
    rw [← hoo] at HO1
    clear hoo
    by_cases hlt : j < N
    · rcases HA.out with hx | ⟨gv, rfl⟩
      · have := HN.out; rw [hx] at this; simp at this; omega
      obtain ⟨z, hz⟩ : ∃ z, vs[j]? = some z := ⟨vs[j]'(by rw [← HN.out]; exact hlt), by simp⟩
      have HZJ := Lib.hid hz
      have hc1 := HL.out.cell hz
      have hr0 := HL.out.at' j z hz
      unfold mkY at hr0
      rw [if_neg (Nat.lt_irrefl _)] at hr0
      have R1 := Lib.hid hr0
      obtain ⟨b1, d1, rfl, _⟩ := R1.out.shape
      clear hz hr0
      go_wp2_with (go_at_call 15; refine (markIntSS_fr _ (US j) (Z j) o B _ R1.out (Nat.le_trans hB HB.out.size) (HU.out j) (HZ.out j) (fun q hq => HO1.out q hj hq)).mono ?_; rintro e w1 ⟨rfl, hr, hb1, hkp⟩)
      have HL1 := Lib.hid (HL.out.marked HZJ.out (HOO.out ▸ hr) hkp)
      have HB1 := Lib.hid (HB.out.trans hb1)
      clear hr hb1 hkp
      go_roundw
      case rel => exact ⟨j + 1, by omega, by go_num, by rw [HOO.out]; rfl, HL1.out, HB1.out⟩
      case measure => simp [intOf]; omega
    · obtain rfl : j = N := by omega
      go_wp2
      go_ret
      exact ⟨ret_int HOO.out, HL.out, HB.out⟩

theorem heldIntSSS_any (v : Value) (vs : List Value) (US : Nat → List Value) (Z : Nat → Nat → List Int) (k : Int) (B : Nat) (w : World) (h : L3f w B v vs US (mkY k US Z vs.length)) (hm : vs.length ≤ 40000) (hz : ∀ i q, (Z i q).length ≤ 2000000) (hu : ∀ i, (US i).length ≤ 40000) (ho : ∀ i q, i ≤ vs.length → q ≤ (US i).length → 0 ≤ offZ (offY k US Z i) (Z i) q ∧ offZ (offY k US Z i) (Z i) q ≤ 100000000000) :
    Calls Try.prog 11 #[v, .int .i64 k] w fun e w' => e = .returned (.int .i64 (offY k US Z vs.length)) ∧ w = w' := by
  have H := Lib.hid h
  have HZ := Lib.hid hz
  have HO := Lib.hid ho
  have HU := Lib.hid hu
  obtain ⟨a, cap, rfl, ha⟩ := h.shape
  have HA := Lib.hid ha
  obtain ⟨N, hN⟩ : ∃ N, N = vs.length := ⟨_, rfl⟩
  have HN := Lib.hid hN
  rw [← hN] at hm HO H ⊢
  clear h ha hN hz ho hu
  go_enter Try.func11, Try.ntmps11
  go_wp2
  go_loop [1, 5] (fun m i => ∃ j : Nat, j ≤ N ∧ i = .int .i64 j ∧ m = .int .i64 (offY k US Z j)) (fun _ i => N - (intOf i).toNat)
  case atStart => exact ⟨0, Nat.zero_le _, rfl, rfl⟩
  case round =>
    obtain ⟨j, hj, rfl, rfl⟩ := hrel
    obtain ⟨o, hoo⟩ : ∃ o, o = offY k US Z j := ⟨_, rfl⟩
    have HOO := Lib.hid hoo
    rw [← hoo]
    have HO1 := Lib.hid (HO.out j)
    rw [← hoo] at HO1
    clear hoo
    by_cases hlt : j < N
    · rcases HA.out with hx | ⟨gv, rfl⟩
      · have := HN.out; rw [hx] at this; simp at this; omega
      obtain ⟨z, hz⟩ : ∃ z, vs[j]? = some z := ⟨vs[j]'(by rw [← HN.out]; exact hlt), by simp⟩
      have hc1 := H.out.cell hz
      have hr0 := H.out.at' j z hz
      unfold mkY at hr0
      rw [if_pos hlt, ← HOO.out] at hr0
      have R1 := Lib.hid hr0
      obtain ⟨b1, d1, rfl, _⟩ := R1.out.shape
      have hpos : ¬ offZ o (Z j) (US j).length < 0 := by have := (HO1.out (US j).length hj (Nat.le_refl _)).1; omega
      clear hz hr0
      go_wp2_with (go_at_call 16; refine (heldIntSS_any _ (US j) (Z j) o B _ R1.out (HU.out j) (HZ.out j) (fun q hq => HO1.out q hj hq)).mono ?_; rintro e w1 ⟨rfl, rfl⟩)
      go_round
      case rel => exact ⟨j + 1, by omega, by go_num, by rw [HOO.out]; rfl⟩
      case measure => simp [intOf]; omega
    · obtain rfl : j = N := by omega
      go_wp2
      go_ret
      exact ⟨ret_int HOO.out, rfl⟩

theorem eqIntSSS_same (v u : Value) (vs us : List Value) (US : Nat → List Value) (ls : List (List (List Int))) (B C : Nat) (w : World) (h : L3f w B v vs US (Z3 ls)) (hl1 : ∀ i u, vs[i]? = some u → (US i).length = (ls.getD i []).length) (h2 : LLx w C u us ls) (hn : vs.length = us.length) (hm : vs.length ≤ 40000) (hu : ∀ i, (US i).length ≤ 40000) (hz : ∀ i q, (Z3 ls i q).length ≤ 2000000) :
    Calls Try.prog 9 #[v, u] w fun e w' => e = .returned (.bool true) ∧ Below w.heap.size w w' := by
  have H := Lib.hid h
  have H2 := Lib.hid h2
  have HZ := Lib.hid hz
  have HU := Lib.hid hu
  have HL1 := Lib.hid hl1
  obtain ⟨a, cap, rfl, ha⟩ := h.shape
  obtain ⟨a2, cap2, rfl, ha2⟩ := h2.shape
  have HA := Lib.hid ha
  have HA2 := Lib.hid ha2
  obtain ⟨N, hN⟩ : ∃ N, N = vs.length := ⟨_, rfl⟩
  have HN := Lib.hid hN
  have HN2 := Lib.hid (hN.trans hn)
  rw [← hN] at hm
  have hne : ((N : Int) != (N : Int)) = false := bne_no rfl
  rw [← hn, ← hN]
  rw [← hN] at H
  rw [← hn, ← hN] at H2
  clear h h2 ha ha2 hn hN hz hu hl1
  go_enter Try.func9, Try.ntmps9
  go_wp2
  go_loopw [5] (fun i wr => ∃ k : Nat, k ≤ N ∧ i = .int .i64 k ∧ Below w.heap.size w wr) (fun i _ => N - (intOf i).toNat)
  case atStart => exact ⟨0, Nat.zero_le _, rfl, Below.refl _ _⟩
  case round =>
    obtain ⟨k, hk, rfl, hb⟩ := hrel
    have HB := Lib.hid hb
    clear hb
    by_cases hlt : k < N
    · rcases HA.out with hx | ⟨gv, rfl⟩
      · have := HN.out; rw [hx] at this; simp at this; omega
      rcases HA2.out with hx | ⟨gv2, rfl⟩
      · have := HN2.out; rw [hx] at this; simp at this; omega
      obtain ⟨z, hz⟩ : ∃ z, vs[k]? = some z := ⟨vs[k]'(by rw [← HN.out]; exact hlt), by simp⟩
      obtain ⟨z2, hz2⟩ : ∃ z, us[k]? = some z := ⟨us[k]'(by rw [← HN2.out]; exact hlt), by simp⟩
      have hc1 := (H.out.keep HB.out).cell hz
      have hc2 := (H2.out.keep HB.out).cell hz2
      have R1 := Lib.hid ((H.out.keep HB.out).at' k z hz)
      obtain ⟨us2, hr2, hl2⟩ := (H2.out.keep HB.out).at3 hz2
      have R2 := Lib.hid hr2
      have HE := Lib.hid (show (US k).length = us2.length by rw [HL1.out k z hz, hl2])
      obtain ⟨b1, d1, rfl, _⟩ := R1.out.shape
      obtain ⟨b2, d2, rfl, _⟩ := R2.out.shape
      clear hz hz2 hr2 hl2
      have R1d := Lib.hid (show LLf wr.drew _ _ _ _ from R1.out.keep (Below.refl _ _).drew)
      have R2d := Lib.hid (show LLf wr.drew _ _ _ _ from R2.out.keep (Below.refl _ _).drew)
      have HBd := Lib.hid (HB.out.drew)
      go_wp2
      go_region_with (go_at_call 14; refine (eqIntSS_same _ _ (US k) us2 (Z3 ls k) _ _ wr.drew R1d.out R2d.out HE.out (HU.out k) (HZ.out k)).mono ?_; rintro e w1 ⟨rfl, hb⟩; have HB1 := Lib.hid (Below.step HBd.out HBd.out.size hb); clear hb)
      all_goals
        go_wp2
        go_roundw
        case rel => exact ⟨k + 1, by omega, by go_num, HB1.out⟩
        case measure => simp [intOf]; omega
    · obtain rfl : k = N := by omega
      go_wp2
      go_ret
      exact ⟨rfl, HB.out⟩

end Go.Proofs.Ytaomlbjlhcpggaa

/- from XPLAllCycles -/
namespace Go.Proofs.Ytaomlbjlhcpggaa
open Go.RowKit
set_option linter.unusedVariables false
set_option linter.unusedSimpArgs false
set_option maxRecDepth 100000

theorem LL3.trim {w : World} {B : Nat} {v : Value} {vs : List Value} {US : Nat → List Value} {ls : List (List (List Int))} (h : LL3 w B v vs US ls) : ∃ VS, LL3 w B v vs VS ls ∧ ∀ i, (VS i).length = (ls.getD i []).length := by
  have hl := h.len
  refine ⟨fun i => if i < vs.length then US i else [], ⟨h.row, h.len, fun i u l hu hi => ?_, h.apart, fun i j a c x y hij hj hx hy => ?_⟩, fun i => ?_⟩
  · have h1 := (List.getElem?_eq_some_iff.1 hu).1
    have := h.at' i u l hu hi
    simpa [h1] using this
  · have hi : i < vs.length := by omega
    simp only [hi, hj, if_true] at hx hy
    exact h.apart2 i j a c x y hij hj hx hy
  · by_cases hi : i < vs.length
    · have h2 : i < ls.length := by omega
      have := (h.at' i _ _ (List.getElem?_eq_getElem hi) (List.getElem?_eq_getElem h2)).len
      simp only [hi, if_true]
      rw [this, List.getD_eq_getElem?_getD, List.getElem?_eq_getElem h2]; rfl
    · simp only [hi, if_false]
      rw [List.getD_eq_getElem?_getD, List.getElem?_eq_none (by omega)]; rfl

theorem offZ_bd8 {k : Int} {Z : Nat → List Int} (h : ∀ i, (Z i).length ≤ 8) (hk : 0 ≤ k) : ∀ i, 0 ≤ offZ k Z i ∧ offZ k Z i ≤ k + 8 * i
  | 0 => by simp [offZ]; exact hk
  | i + 1 => by
    have h1 := offZ_bd8 h hk i
    have h2 := h i
    simp only [offZ]
    push_cast
    omega
theorem offY_bd {US : Nat → List Value} {Z : Nat → Nat → List Int} (h : ∀ i q, (Z i q).length ≤ 8) (hu : ∀ i, (US i).length ≤ 3876) : ∀ i, 0 ≤ offY 1 US Z i ∧ offY 1 US Z i ≤ 1 + 31008 * i
  | 0 => by simp [offY]
  | i + 1 => by
    have h1 := offY_bd h hu i
    have h2 := offZ_bd8 (h i) h1.1 (US i).length
    have h3 := hu i
    simp only [offY]
    push_cast
    omega
theorem offY_congr {US VS : Nat → List Value} {Z : Nat → Nat → List Int} (h : ∀ i, (US i).length = (VS i).length) (k : Int) : ∀ i, offY k US Z i = offY k VS Z i
  | 0 => rfl
  | i + 1 => by simp only [offY]; rw [offY_congr h k i, h i]

theorem LF_AllCycles_bd (W b : Int) : (LF_AllCycles W b).length ≤ 3876 ∧ (∀ i, ((LF_AllCycles W b).getD i []).length ≤ 3876) ∧ ∀ i q, (Z3 (LF_AllCycles W b) i q).length ≤ 8 := by
  have key : ∀ (ls : List (List (List Int))), (∀ l ∈ ls, l.length ≤ 3876 ∧ ∀ x ∈ l, x.length ≤ 8) → (∀ i, (ls.getD i []).length ≤ 3876) ∧ ∀ i q, (Z3 ls i q).length ≤ 8 := fun ls h => by
    have h1 : ∀ i, (ls.getD i []).length ≤ 3876 ∧ ∀ x ∈ ls.getD i [], x.length ≤ 8 := fun i => by
      rw [List.getD_eq_getElem?_getD]
      cases hq : ls[i]? with
      | none => exact ⟨by simp, fun x hx => by simp at hx⟩
      | some l => exact h l (List.mem_of_getElem? hq)
    exact ⟨fun i => (h1 i).1, fun i q => lsZ_len (h1 i).2 q⟩
  unfold LF_AllCycles
  by_cases h : okS W b = true
  · obtain ⟨V, M, rfl, rfl, h1, h2, h3, h4⟩ := okS_nat h
    rw [if_pos h, show (V : Int).toNat = V by omega, show (((M + 1 : Nat) : Int)).toNat - 1 = M by omega]
    have h5 := cyS_len h2 h4
    have h6 := nA_bd h2 h4
    have hin := fA_into (V := V) h3
    refine ⟨by rw [List.length_map]; exact h5, key _ fun l hl => ?_⟩
    obtain ⟨c, hc, rfl⟩ := List.mem_map.1 hl
    unfold cycs cycsTo at hc
    obtain ⟨m, hm, rfl⟩ := List.mem_map.1 hc
    rw [List.mem_filter] at hm
    have h7 := (per_spec hin ((lead_iff hin).1 hm.2).1).2.1
    refine ⟨by rw [List.length_map, rnd_len]; omega, fun x hx => ?_⟩
    obtain ⟨y, _, rfl⟩ := List.mem_map.1 hx
    rw [wA_len]; exact h2
  · rw [if_neg h]
    exact ⟨by simp, key [] fun l hl => by simp at hl⟩

/-- A slice of slices of slices that is read, all below C. -/
structure LLu (w : World) (B C : Nat) (v : Value) (vs : List Value) (ls : List (List (List Int))) : Prop where
  row : Rg 28 w B v vs
  len : vs.length = ls.length
  und : ∀ k, v.ownBlock = some k → k < C
  at' : ∀ (i : Nat) (u : Value) (l : List (List Int)), vs[i]? = some u → ls[i]? = some l → ∃ us, LLi w B u us l ∧ Und C u us
theorem LLx.u {w : World} {B : Nat} {v : Value} {vs : List Value} {ls : List (List (List Int))} (h : LLx w B v vs ls) : LLu w B w.heap.size v vs ls :=
  ⟨h.row, h.len, fun k hk => (h.row.lt k hk).2, fun i u l hu hl => (h.at' i u l hu hl).elim fun us hx => ⟨us, hx, hx.f.und⟩⟩
theorem LLu.x {w : World} {B C : Nat} {v : Value} {vs : List Value} {ls : List (List (List Int))} (h : LLu w B C v vs ls) : LLx w B v vs ls :=
  ⟨h.row, h.len, fun i u l hu hl => (h.at' i u l hu hl).elim fun us hx => ⟨us, hx.1⟩⟩
theorem LLu.keep {w w' : World} {B C : Nat} {v : Value} {vs : List Value} {ls : List (List (List Int))} (h : LLu w B C v vs ls) (hb : Below w.heap.size w w') : LLu w' B C v vs ls :=
  ⟨h.row.keep hb, h.len, h.und, fun i u l hu hl => (h.at' i u l hu hl).elim fun us hx => ⟨us, hx.1.keep hb, hx.2⟩⟩
theorem LLu.keepU {w w' : World} {B C : Nat} {v : Value} {vs : List Value} {ls : List (List (List Int))} (h : LLu w B C v vs ls) (hb : Below C w w') : LLu w' B C v vs ls := by
  refine ⟨?_, h.len, h.und, fun i u l hu hl => (h.at' i u l hu hl).elim fun us hx => ⟨us, ?_, hx.2⟩⟩
  · refine ⟨h.row.1, ?_⟩
    rcases h.row.2 with h2 | ⟨g, cap, cur, rfl, hg, hh, r⟩
    · exact .inl h2
    · exact .inr ⟨g, cap, cur, rfl, hg, by rw [hb.block g (h.und g rfl)]; exact hh, r⟩
  · have h1 := hx.1
    refine ⟨?_, h1.len, fun q z m hz hm => (h1.at' q z m hz hm).keepB hb (hx.2.2 q z hz), h1.apart⟩
    refine ⟨h1.row.1, ?_⟩
    rcases h1.row.2 with h2 | ⟨g, cap, cur, rfl, hg, hh, r⟩
    · exact .inl h2
    · exact .inr ⟨g, cap, cur, rfl, hg, by rw [hb.block g (hx.2.1 g rfl)]; exact hh, r⟩

theorem law_AllCycles (a0 : Int) (a1 : Int) (W : World) :
    Calls Try.prog 3 #[.int .i64 a0, .int .i64 a1] W fun e w' => e = .returned (.bool true) ∧ Below W.heap.size W w' := by
  obtain ⟨ls, hxs⟩ : ∃ ls, ls = LF_AllCycles a0 a1 := ⟨_, rfl⟩
  have HX := Lib.hid hxs
  have HBD := Lib.hid (LF_AllCycles_bd a0 a1)
  rw [← hxs] at HBD
  have HZ := Lib.hid (show ∀ i q, (Z3 ls i q).length ≤ 2000000 from fun i q => Nat.le_trans (HBD.out.2.2 i q) (by omega))
  have hln : ls.length ≤ 40000 := Nat.le_trans HBD.out.1 (by omega)
  clear hxs
  go_enter Try.func3, Try.ntmps3
  go_wp2_with fail
  refine (spec_AllCycles a0 a1 _).mono ?_
  rintro e w2 ⟨v2, vs2, rfl, hv, hb⟩
  rw [← HX.out] at hv
  have N2 := Lib.hid hv.len
  have L2 := Lib.hid hv.u
  have B2 := Lib.hid hb
  clear hv hb
  go_wp2_with fail
  refine (impl_AllCycles a0 a1 _).mono ?_
  rintro e w4 ⟨v4, vs4, US0, rfl, hv0, hb⟩
  rw [← HX.out] at hv0
  obtain ⟨US, hv, hus⟩ := hv0.trim
  have HUS := Lib.hid hus
  have HUL := Lib.hid (show ∀ i, (US i).length ≤ 3876 from fun i => by rw [hus i]; exact HBD.out.2.1 i)
  have HU4 := Lib.hid (show ∀ i, (US i).length ≤ 40000 from fun i => Nat.le_trans (HUL.out i) (by omega))
  have N4 := Lib.hid hv.len
  have G4 := Lib.hid hv.f
  have L4 := Lib.hid (L2.out.keep hb)
  have B4 := Lib.hid (Below.step B2.out B2.out.size hb)
  have S4 := Lib.hid hb.size
  have HOF := Lib.hid (show ∀ i q, i ≤ vs4.length → q ≤ (US i).length → 0 ≤ offZ (offY 1 US (Z3 ls) i) (Z3 ls i) q ∧ offZ (offY 1 US (Z3 ls) i) (Z3 ls i) q ≤ 100000000000 from fun i q hi hq => by
    have e1 := offY_bd (Z := Z3 ls) HBD.out.2.2 HUL.out i
    have e2 := offZ_bd8 (HBD.out.2.2 i) e1.1 q
    have e3 := HUL.out i
    have e4 := N4.out
    omega)
  have HOY := Lib.hid (show 0 ≤ offY 1 US (Z3 ls) vs4.length from (offY_bd (Z := Z3 ls) HBD.out.2.2 HUL.out _).1)
  clear hv hb hv0 hus
  go_wp2_with fail
  refine (eqIntSSS_same _ _ vs4 vs2 US ls _ _ _ G4.out (fun i u _ => HUS.out i) L4.out.x (by rw [N4.out, N2.out]) (by rw [N4.out]; exact hln) HU4.out HZ.out).mono ?_
  rintro e w5 ⟨rfl, hb⟩
  have L5 := Lib.hid (L4.out.keep hb)
  have G5 := Lib.hid (G4.out.keep hb)
  have B5 := Lib.hid (Below.step B4.out B4.out.size hb)
  have S5 := Lib.hid (Nat.le_trans S4.out hb.size)
  clear hb
  go_wp2_with fail
  refine (markIntSSS_any _ vs4 US (Z3 ls) 1 _ _ G5.out S5.out (by rw [N4.out]; exact hln) HZ.out HU4.out HOF.out).mono ?_
  obtain ⟨o, hoo⟩ : ∃ o, o = offY 1 US (Z3 ls) vs4.length := ⟨_, rfl⟩
  have HOO := Lib.hid hoo
  have ho0 : 0 ≤ o := by rw [hoo]; exact HOY.out
  rw [← hoo]
  clear hoo
  rintro e w10 ⟨rfl, hg, hb⟩
  have G10 := Lib.hid hg
  have L10 := Lib.hid (L5.out.keepU hb)
  have B10 := Lib.hid (B5.out.trans (hb.mono B2.out.size))
  clear hg hb
  go_wp2_with fail
  refine (heldIntSSS_any _ vs4 US (Z3 ls) 1 _ _ G10.out (by rw [N4.out]; exact hln) HZ.out HU4.out HOF.out).mono ?_
  rw [← HOO.out]
  rintro e w11 ⟨rfl, rfl⟩
  go_wp2_with fail
  refine (impl_AllCycles a0 a1 _).mono ?_
  rintro e w13 ⟨v13, vs13, VS0, rfl, hv0, hb⟩
  rw [← HX.out] at hv0
  obtain ⟨VS, hv, hvs⟩ := hv0.trim
  have HVS := Lib.hid hvs
  have HV4 := Lib.hid (show ∀ i, (VS i).length ≤ 40000 from fun i => by rw [hvs i]; exact Nat.le_trans (HBD.out.2.1 i) (by omega))
  have N13 := Lib.hid hv.len
  have H13 := Lib.hid hv.f
  have L13 := Lib.hid (L10.out.keep hb)
  have G13 := Lib.hid (G10.out.keep hb)
  have B13 := Lib.hid (Below.step B10.out B10.out.size hb)
  clear hv hb hv0 hvs
  go_wp2_with fail
  refine (eqIntSSS_same _ _ vs13 vs2 VS ls _ _ _ H13.out (fun i u _ => HVS.out i) L13.out.x (by rw [N13.out, N2.out]) (by rw [N13.out]; exact hln) HV4.out HZ.out).mono ?_
  rintro e w14 ⟨rfl, hb⟩
  have G14 := Lib.hid (G13.out.keep hb)
  have B14 := Lib.hid (Below.step B13.out B13.out.size hb)
  clear hb
  go_wp2_with fail
  refine (heldIntSSS_any _ vs4 US (Z3 ls) 1 _ _ G14.out (by rw [N4.out]; exact hln) HZ.out HU4.out HOF.out).mono ?_
  rw [← HOO.out]
  rintro e w15 ⟨rfl, rfl⟩
  go_wp2
  go_ret
  exact ⟨rfl, B14.out⟩

end Go.Proofs.Ytaomlbjlhcpggaa
