/-
  Joint text of R1, R3, R4: what each proves stands ahead of it.
-/
import Derived.Test.YtlbjeiaihenjkaaGreatDoorJ44
import Derived.Test.YtlbjeiaihenjkaaGreatDoorJ43
/- from R1: The program runs a script.  -/
namespace Go.Proofs.YtlbjeiaihenjkaaGreatDoor
open Go.RowKit
set_option linter.unusedVariables false
set_option linter.unusedSimpArgs false
set_option maxRecDepth 100000

theorem infoO : (Tryz.prog.info? 60).map (fun i => (i.zero, i.size, i.bytes)) = some (some (.agg #[.int .i64 0, .int .i64 0, .string ⟨#[]⟩, .nilIface]), 4, 48) := by kernel_rfl
/-- How a line of a script fails. -/
def rpL (pn pw : Addr) (j : Nat) : Rp → Value
  | .say _ => .nilIface
  | rp => .iface 70 (.agg #[.int .i64 ((j : Int) + 1), rpE pn pw rp])
/-- The outcomes of lines, four cells each. -/
structure Os (w : World) (pn pw : Addr) (g K : Nat) (rs : List (Int × Int × Rp)) : Prop where
  lt : g < w.heap.size
  cell : ∀ j, j < 4 * K → ∃ y, w.cell? ⟨g, j, none⟩ = some y
  free : ∀ j, w.frozen? ⟨g, j, none⟩ = false
  at' : ∀ j r, rs[j]? = some r → w.cell? ⟨g, j * 4, none⟩ = some (.int .i64 r.1) ∧ w.cell? ⟨g, j * 4 + 1, none⟩ = some (.int .i64 r.2.1) ∧ w.cell? ⟨g, j * 4 + 2, none⟩ = some (str (rpS r.2.2)) ∧ w.cell? ⟨g, j * 4 + 3, none⟩ = some (rpL pn pw j r.2.2)
theorem Os.keep {w w' : World} {pn pw : Addr} {g K B : Nat} {rs : List (Int × Int × Rp)} (h : Os w pn pw g K rs) (hb : Below B w w') (hg : g < B) : Os w' pn pw g K rs := by
  have c := fun j => hb.cell (p := ⟨g, j, none⟩) hg
  refine ⟨Nat.lt_of_lt_of_le h.lt hb.size, fun j hj => ?_, fun j => (hb.frozen (p := ⟨g, j, none⟩) hg).trans (h.free j), fun j r hr => ?_⟩
  · obtain ⟨y, hy⟩ := h.cell j hj; exact ⟨y, (c j).trans hy⟩
  · obtain ⟨a, b, d, e⟩ := h.at' j r hr
    exact ⟨(c _).trans a, (c _).trans b, (c _).trans d, (c _).trans e⟩

theorem set_at {w : World} {g o : Nat} {x : Value} (h : ∃ y, w.cell? ⟨g, o, none⟩ = some y) (j : Nat) : (w.setCell ⟨g, o, none⟩ x).cell? ⟨g, j, none⟩ = if j = o then some x else w.cell? ⟨g, j, none⟩ := by
  obtain ⟨y, hy⟩ := h
  by_cases e : j = o
  · subst e; rw [if_pos rfl]; exact World.cell?_setCell_same _ _ _ hy
  · rw [if_neg e]; exact World.cell?_setCell_other _ _ _ _ (fun h => e (by simpa using (congrArg Addr.off h).symm))
abbrev put4 (w : World) (g o : Nat) (x0 x1 x2 x3 : Value) : World := (((w.setCell ⟨g, o, none⟩ x0).setCell ⟨g, o + 1, none⟩ x1).setCell ⟨g, o + 2, none⟩ x2).setCell ⟨g, o + 3, none⟩ x3
theorem put4_cell {w : World} {g o N : Nat} {x0 x1 x2 x3 : Value} (h : ∀ j, j < N → ∃ y, w.cell? ⟨g, j, none⟩ = some y) (ho : o + 3 < N) (j : Nat) :
    (put4 w g o x0 x1 x2 x3).cell? ⟨g, j, none⟩ = if j = o + 3 then some x3 else if j = o + 2 then some x2 else if j = o + 1 then some x1 else if j = o then some x0 else w.cell? ⟨g, j, none⟩ := by
  have s1 := fun j => set_at (x := x0) (h o (by omega)) j
  have h1 : ∃ y, (w.setCell ⟨g, o, none⟩ x0).cell? ⟨g, o + 1, none⟩ = some y := by rw [s1, if_neg (by omega)]; exact h _ (by omega)
  have s2 := fun j => set_at (x := x1) h1 j
  have h2 : ∃ y, ((w.setCell ⟨g, o, none⟩ x0).setCell ⟨g, o + 1, none⟩ x1).cell? ⟨g, o + 2, none⟩ = some y := by rw [s2, if_neg (by omega), s1, if_neg (by omega)]; exact h _ (by omega)
  have s3 := fun j => set_at (x := x2) h2 j
  have h3 : ∃ y, (((w.setCell ⟨g, o, none⟩ x0).setCell ⟨g, o + 1, none⟩ x1).setCell ⟨g, o + 2, none⟩ x2).cell? ⟨g, o + 3, none⟩ = some y := by rw [s3, if_neg (by omega), s2, if_neg (by omega), s1, if_neg (by omega)]; exact h _ (by omega)
  rw [set_at (x := x3) h3, s3, s2, s1]
theorem put4_below {B : Nat} {w0 w : World} {g : Nat} (hb : Below B w0 w) (hs : B ≤ g) (o : Nat) (x0 x1 x2 x3 : Value) : Below B w0 (put4 w g o x0 x1 x2 x3) :=
  (((hb.setCell (p := ⟨g, o, none⟩) hs _).setCell (p := ⟨g, o + 1, none⟩) hs _).setCell (p := ⟨g, o + 2, none⟩) hs _).setCell (p := ⟨g, o + 3, none⟩) hs _
theorem put4_far {w : World} {g o D : Nat} {x0 x1 x2 x3 : Value} (h : g ≠ D) (j : Nat) : (put4 w g o x0 x1 x2 x3).cell? ⟨D, j, none⟩ = w.cell? ⟨D, j, none⟩ := by
  have ne : ∀ i, (⟨g, i, none⟩ : Addr) ≠ ⟨D, j, none⟩ := fun i e => h (congrArg Addr.block e)
  have o := World.cell?_setCell_other
  rw [o _ _ _ _ (ne _), o _ _ _ _ (ne _), o _ _ _ _ (ne _), o _ _ _ _ (ne _)]
theorem Os.put {w : World} {pn pw : Addr} {g K k : Nat} {rs : List (Int × Int × Rp)} (h : Os w pn pw g K rs) (hl : rs.length = k) (hk : k < K) (r : Int × Int × Rp) :
    Os (put4 w g (k * 4) (.int .i64 r.1) (.int .i64 r.2.1) (str (rpS r.2.2)) (rpL pn pw k r.2.2)) pn pw g K (rs ++ [r]) := by
  have c := fun j => put4_cell (x0 := .int .i64 r.1) (x1 := .int .i64 r.2.1) (x2 := str (rpS r.2.2)) (x3 := rpL pn pw k r.2.2) h.cell (o := k * 4) (by omega) j
  refine ⟨by have := h.lt; simpa [World.setCell] using this, fun j hj => ?_, fun j => ?_, fun j s hs => ?_⟩
  · rw [c]
    split; · exact ⟨_, rfl⟩
    split; · exact ⟨_, rfl⟩
    split; · exact ⟨_, rfl⟩
    split; · exact ⟨_, rfl⟩
    exact h.cell j hj
  · have := h.free j; simpa [go_sem] using this
  · rcases Nat.lt_or_ge j k with hj | hj
    · rw [List.getElem?_append_left (by omega)] at hs
      obtain ⟨a, b, d, e⟩ := h.at' j s hs
      refine ⟨?_, ?_, ?_, ?_⟩ <;> (rw [c, if_neg (by omega), if_neg (by omega), if_neg (by omega), if_neg (by omega)]; assumption)
    · rw [List.getElem?_append_right (by omega)] at hs
      have e : j = k := by
        rcases Nat.lt_or_ge (j - rs.length) 1 with h1 | h1
        · omega
        · rw [List.getElem?_eq_none (by simpa using h1)] at hs; cases hs
      subst e
      rw [hl, Nat.sub_self] at hs
      obtain rfl : r = s := by simpa using hs
      exact ⟨by rw [c, if_neg (by omega), if_neg (by omega), if_neg (by omega), if_pos rfl], by rw [c, if_neg (by omega), if_neg (by omega), if_pos rfl], by rw [c, if_neg (by omega), if_pos rfl], by rw [c, if_pos rfl]⟩

/-- What a round leaves behind: the outcome laid, the desk moved on. -/
theorem round_facts {w3 wr w4 : World} {pn pw : Addr} {g K k : Nat} {rs : List (Int × Int × Rp)} (hb : Below g w3 wr) (hb4 : Below wr.heap.size wr w4) (hz : w3.heap.size + 1 ≤ wr.heap.size) (O : Os w4 pn pw g K rs) (hl : rs.length = k) (hk : k < K) (hgD : g < w3.heap.size)
    (hB : Box2 w4 w3.heap.size) (r : Int × Int × Rp) (o : Obj) (W : World) (hW : W = (set2 (put4 w4 g (k * 4) (.int .i64 r.1) (.int .i64 r.2.1) (str (rpS r.2.2)) (rpL pn pw k r.2.2)) w3.heap.size (.int .i64 r.1) (.int .i64 r.2.1)).alloc o) :
    Os W pn pw g K (rs ++ [r]) ∧ Below g w3 W ∧ W.cell? ⟨w3.heap.size, 0, none⟩ = some (.int .i64 r.1) ∧ W.cell? ⟨w3.heap.size, 1, none⟩ = some (.int .i64 r.2.1) ∧ (∀ j, W.frozen? ⟨w3.heap.size, j, none⟩ = false) ∧ w3.heap.size + 1 ≤ W.heap.size := by
  subst hW
  obtain ⟨P, hP⟩ : ∃ P, P = put4 w4 g (k * 4) (.int .i64 r.1) (.int .i64 r.2.1) (str (rpS r.2.2)) (rpL pn pw k r.2.2) := ⟨_, rfl⟩
  have hPz : P.heap.size = w4.heap.size := by rw [hP]; simp [World.setCell]
  have hOP : Os P pn pw g K (rs ++ [r]) := by rw [hP]; exact O.put hl hk r
  have hBP : Below g w3 P := by rw [hP]; exact put4_below (hb.trans (hb4.mono (by omega))) (Nat.le_refl _) _ _ _ _ _
  have hXP : Box2 P w3.heap.size := by
    refine ⟨fun j hj => ?_, fun j => ?_⟩
    · rw [hP, put4_far (by omega)]; exact hB.cell j hj
    · have := hB.free j; rw [hP]; simpa [go_sem] using this
  rw [← hP]
  have hs4 := hb4.size
  have hQz : (set2 P w3.heap.size (.int .i64 r.1) (.int .i64 r.2.1)).heap.size = w4.heap.size := by rw [← hPz]; simp [World.setCell]
  have ab := alloc_belowD (set2 P w3.heap.size (.int .i64 r.1) (.int .i64 r.2.1)) o
  rw [hQz] at ab
  obtain ⟨c0, c1⟩ := set2_cells hXP (.int .i64 r.1) (.int .i64 r.2.1)
  refine ⟨(hOP.keep (set2_below (Below.refl w3.heap.size P) (Nat.le_refl _) _ _) hgD).keep ab (by omega), (set2_below hBP (by omega) _ _).trans (ab.mono (by omega)), (ab.cell (p := ⟨w3.heap.size, 0, none⟩) (by show w3.heap.size < _; omega)).trans c0, (ab.cell (p := ⟨w3.heap.size, 1, none⟩) (by show w3.heap.size < _; omega)).trans c1, fun j => (ab.frozen (p := ⟨w3.heap.size, j, none⟩) (by show w3.heap.size < _; omega)).trans ?_, ?_⟩
  · have := hXP.free j; simpa [go_sem] using this
  · have := ab.size; rw [hQz] at this; omega

theorem runScript_ok (S : Tx) (hok : scOk S) (pn pw : Addr) (w : World) (h : Env w pn pw) :
    Calls Tryz.prog 40 #[str S] w fun e w' => ∃ g, e = .returned (.tuple #[.slice (some ⟨g, 0, none⟩) (runS 7 10 (scL S)).length (runS 7 10 (scL S)).length, .bool true]) ∧ Os w' pn pw g (runS 7 10 (scL S)).length (runS 7 10 (scL S)) ∧ w.heap.size ≤ g ∧ Below w.heap.size w w' := by
  obtain ⟨K, hK⟩ : ∃ K, K = S.count 10 := ⟨_, rfl⟩
  have hlen : (runS 7 10 (scL S)).length = K := by rw [runS_len, scL_len, hK]
  rw [hlen]
  obtain ⟨x, hx, hl⟩ := spl_at 10 S
  obtain ⟨h1, h2, h3⟩ := hok
  have h4 : (spl 10 S)[K]? = some [] := by rw [hK, ← spl_last]; exact h2
  rw [← hK] at h3
  have HK := Lib.hid (scriptLines_ok S h1 K hK h4 h3 pn pw w h)
  have HE := Lib.hid (fun w' (hb : Below w.heap.size w w') => h.keep hb)
  have HKK := Lib.hid hK
  have HS3 := Lib.hid h1
  obtain ⟨i0, hi, hz0, hz2, hz3⟩ := info_parts infoO
  clear hx hl h1 h2 h4 h hlen hK
  go_enter Tryz.func40, Tryz.ntmps40
  go_wp2_with fail
  refine HK.out.mono ?_
  rintro e w1 ⟨g0, rfl, hc, hg0, hg1, hb⟩
  have HC := Lib.hid hc
  have HB := Lib.hid hb
  clear hc hb
  go_wp2_with (at_make; refine wpList_make_full _ rfl _ _ 65 rfl w1.heap.size 60 i0 (.agg #[.int .i64 0, .int .i64 0, .string ⟨#[]⟩, .nilIface]) 4 Tryz.underlying65 hi hz0 hz2 .i64 .i64 _ _ K rfl rfl rfl rfl (by rw [hz3]; omega) (by unfold maxLen; omega) (Nat.le_refl _) ?_; intro w2 hr2 hg2; have R2 := Lib.hid hr2; have B2 := Lib.hid ((Below.refl _ _).grown hg2 (Nat.le_refl _) (fun k hk => by cases hk)); clear hr2 hg2)
  obtain ⟨g, hg⟩ : ∃ g, g = w1.heap.size := ⟨_, rfl⟩
  have hgz : g < w2.heap.size := by
    rcases R2.out.2 with ⟨h1, _⟩ | ⟨g', cap, cur, h1, _, hh, _⟩
    · simp at h1
    · simp only [Value.slice.injEq, Option.some.injEq, Addr.mk.injEq, and_true, true_and] at h1
      rw [hg, h1.1]; exact (Array.getElem?_eq_some_iff.1 hh).1
  have O2 := Lib.hid (show Os w2 pn pw g K [] from ⟨hgz, fun j hj => by
      have := R2.out.cellAt j (by omega)
      rw [← hg] at this
      rw [this]
      have hl : j < (madeCells (Value.agg #[.int .i64 0, .int .i64 0, .string ⟨#[]⟩, .nilIface]).cells (K * 4)).toList.length := by rw [R2.out.1]; omega
      exact ⟨_, List.getElem?_eq_getElem hl⟩, fun j => by have := R2.out.frozenAt j; rw [← hg] at this; exact this, fun j r hr => by simp at hr⟩)
  have GG := Lib.hid (show g0 < g ∧ w.heap.size ≤ g ∧ Below w.heap.size w w2 ∧ ∀ j x, (spl 10 S)[j]? = some x → w2.cell? ⟨g0, j, none⟩ = some (str x) from ⟨by rw [hg]; exact hg1, by rw [hg]; exact HB.out.size, HB.out.trans (B2.out.mono HB.out.size), fun j x hx => (B2.out.cell (p := ⟨g0, j, none⟩) hg1).trans (HC.out j x hx)⟩)
  rw [← hg]
  refine (impl_FirstDesk _).mono ?_
  rintro e w3 ⟨rfl, hb⟩
  have B3 := Lib.hid hb
  have hgz3 : g < w3.heap.size := Nat.lt_of_lt_of_le hgz hb.size
  clear hb R2 B2 HC hg0 hg1 hz0 hz2 hz3 hi hg
  have HLE := Lib.hid (show w3.heap.size = w3.heap.size ∧ g < w3.heap.size from ⟨rfl, hgz3⟩)
  have G3 := Lib.hid (show g0 < g ∧ Below g w2 w3 ∧ w.heap.size ≤ g from ⟨GG.out.1, B3.out.mono (by omega), GG.out.2.1⟩)
  have O3 := Lib.hid (O2.out.keep B3.out hgz)
  have K3 := Lib.hid (show Below w.heap.size w w3 ∧ ∀ j x, (spl 10 S)[j]? = some x → w3.cell? ⟨g0, j, none⟩ = some (str x) from ⟨GG.out.2.2.1.trans (G3.out.2.1.mono G3.out.2.2), fun j x hx => (G3.out.2.1.cell (p := ⟨g0, j, none⟩) G3.out.1).trans (GG.out.2.2.2 j x hx)⟩)
  have hif : Tryz.prog.isIface 58 = true := by kernel_rfl
  clear O2 GG B3
  go_wp2
  go_loopw [24] (fun i wr => ∃ k : Nat, k ≤ K ∧ i = .int .i64 (k : Int) ∧ Os wr pn pw g K (runS 7 10 ((scL S).take k)) ∧ Below g w3 wr ∧ wr.cell? ⟨w3.heap.size, 0, none⟩ = some (.int .i64 (endS 7 10 ((scL S).take k)).1) ∧ wr.cell? ⟨w3.heap.size, 1, none⟩ = some (.int .i64 (endS 7 10 ((scL S).take k)).2) ∧ (∀ j, wr.frozen? ⟨w3.heap.size, j, none⟩ = false) ∧ w3.heap.size + 1 ≤ wr.heap.size) (fun i _ => K - (intOf i).toNat)
  case atStart =>
    have ab := alloc_belowD w3 (.cells #[.int .i64 7, .int .i64 10] 24)
    exact ⟨0, Nat.zero_le _, rfl, O3.out.keep ab hgz3, ab.mono (by omega), by simp [go_sem, endS], by simp [go_sem, endS], fun j => by simp [go_sem], by simp⟩
  case round =>
    obtain ⟨k, hk, rfl, hr, hb, d0, d1, df, hz⟩ := hrel
    by_cases hlt : k < K
    · obtain ⟨x, hx1, hx2, hx3, hx4⟩ := scL_at S k (by have := HKK.out; omega)
      have kx : wr.cell? ⟨g0, k, none⟩ = some (str x) := (hb.cell (p := ⟨g0, k, none⟩) G3.out.1).trans (K3.out.2 k x hx1)
      obtain ⟨hN, hB⟩ := endS_dk ((scL S).take k) 7 10 ⟨by omega, by omega⟩ ⟨by omega, by omega⟩
      have HT := Lib.hid (runS_snoc ((scL S).take k) 7 10 x)
      have HU := Lib.hid (endS_snoc ((scL S).take k) 7 10 x)
      rw [← hx3] at HT HU
      obtain ⟨n, hn⟩ : ∃ n, n = (endS 7 10 ((scL S).take k)).1 := ⟨_, rfl⟩
      obtain ⟨b, hbb⟩ : ∃ b, b = (endS 7 10 ((scL S).take k)).2 := ⟨_, rfl⟩
      have HX := Lib.hid (execute_any n b x (by rw [hn]; exact hN) (by rw [hbb]; exact hB) (by have := HS3.out; omega) pn pw wr (HE.out wr (K3.out.1.trans (hb.mono G3.out.2.2))))
      rw [← hn] at d0 HT HU
      rw [← hbb] at d1 HT HU
      have hln : ln1 n b x = lineF n b (spl 32 x) := rfl
      obtain ⟨n', b', rp, hR⟩ : ∃ n' b' rp, lineF n b (spl 32 x) = (n', b', rp) := ⟨_, _, _, rfl⟩
      rw [hln, hR] at HT HU
      rw [hR] at HX
      have HR := Lib.hid hr
      have HBB := Lib.hid hb
      have HLT := Lib.hid hlt
      have ZZ := Lib.hid hz
      have hlr : (runS 7 10 ((scL S).take k)).length = k := by rw [runS_len, List.length_take, scL_len]; have := HKK.out; omega
      have HLR := Lib.hid hlr
      clear hr hb hx1 hx2 hx3 hx4 hN hB hn hbb hR hln hlr
      have hk2 : k ≤ 50 := by omega
      cases rp with
      | say t =>
        simp only [oc, rpS, rpE] at HX
        go_wp2_with fail
        refine HX.out.mono ?_
        rintro e w4 ⟨rfl, hb4⟩
        have B4 := Lib.hid hb4
        have e0 := (hb4.cell (p := ⟨w3.heap.size, 0, none⟩) ZZ.out).trans d0
        have e1 := (hb4.cell (p := ⟨w3.heap.size, 1, none⟩) ZZ.out).trans d1
        have ef := fun j => (hb4.frozen (p := ⟨w3.heap.size, j, none⟩) ZZ.out).trans (df j)
        have hD4 : w3.heap.size < w4.heap.size := Nat.lt_of_lt_of_le ZZ.out hb4.size
        have O4 := Lib.hid (HR.out.keep hb4 HR.out.lt)
        obtain ⟨z0, c0⟩ := O4.out.cell (k * 4) (by omega)
        obtain ⟨z1, c1⟩ := O4.out.cell (k * 4 + 1) (by omega)
        obtain ⟨z2, c2⟩ := O4.out.cell (k * 4 + 2) (by omega)
        obtain ⟨z3, c3⟩ := O4.out.cell (k * 4 + 3) (by omega)
        have cf := O4.out.free
        have hgne : g ≠ w3.heap.size := by omega
        have hg4 : g < w4.heap.size := O4.out.lt
        have HXB := Lib.hid (show Box2 w4 w3.heap.size from ⟨fun j hj => by
          match j, hj with
          | 0, _ => exact ⟨_, e0⟩
          | 1, _ => exact ⟨_, e1⟩
          | j + 2, h => omega, ef⟩)
        clear hb4 d0 d1 df kx
        go_wp2
        go_roundw
        case rel =>
          obtain ⟨f1, f2, f3, f4, f5, f6⟩ := round_facts HBB.out B4.out ZZ.out O4.out HLR.out HLT.out HLE.out.2 HXB.out (n', b', Rp.say t) _ _ rfl
          exact ⟨k + 1, by have := HLT.out; omega, by go_num, by rw [HT.out]; exact f1, f2, by rw [HU.out]; exact f3, by rw [HU.out]; exact f4, f5, f6⟩
        case measure => simp [intOf]; omega
      | no =>
        simp only [oc, rpS, rpE] at HX
        go_wp2_with fail
        refine HX.out.mono ?_
        rintro e w4 ⟨rfl, hb4⟩
        have B4 := Lib.hid hb4
        have e0 := (hb4.cell (p := ⟨w3.heap.size, 0, none⟩) ZZ.out).trans d0
        have e1 := (hb4.cell (p := ⟨w3.heap.size, 1, none⟩) ZZ.out).trans d1
        have ef := fun j => (hb4.frozen (p := ⟨w3.heap.size, j, none⟩) ZZ.out).trans (df j)
        have hD4 : w3.heap.size < w4.heap.size := Nat.lt_of_lt_of_le ZZ.out hb4.size
        have O4 := Lib.hid (HR.out.keep hb4 HR.out.lt)
        obtain ⟨z0, c0⟩ := O4.out.cell (k * 4) (by omega)
        obtain ⟨z1, c1⟩ := O4.out.cell (k * 4 + 1) (by omega)
        obtain ⟨z2, c2⟩ := O4.out.cell (k * 4 + 2) (by omega)
        obtain ⟨z3, c3⟩ := O4.out.cell (k * 4 + 3) (by omega)
        have cf := O4.out.free
        have hgne : g ≠ w3.heap.size := by omega
        have hg4 : g < w4.heap.size := O4.out.lt
        have HXB := Lib.hid (show Box2 w4 w3.heap.size from ⟨fun j hj => by
          match j, hj with
          | 0, _ => exact ⟨_, e0⟩
          | 1, _ => exact ⟨_, e1⟩
          | j + 2, h => omega, ef⟩)
        clear hb4 d0 d1 df kx
        go_wp2
        go_roundw
        case rel =>
          obtain ⟨f1, f2, f3, f4, f5, f6⟩ := round_facts HBB.out B4.out ZZ.out O4.out HLR.out HLT.out HLE.out.2 HXB.out (n', b', Rp.no) _ _ rfl
          exact ⟨k + 1, by have := HLT.out; omega, by go_num, by rw [HT.out]; exact f1, f2, by rw [HU.out]; exact f3, by rw [HU.out]; exact f4, f5, f6⟩
        case measure => simp [intOf]; omega
      | what =>
        simp only [oc, rpS, rpE] at HX
        go_wp2_with fail
        refine HX.out.mono ?_
        rintro e w4 ⟨rfl, hb4⟩
        have B4 := Lib.hid hb4
        have e0 := (hb4.cell (p := ⟨w3.heap.size, 0, none⟩) ZZ.out).trans d0
        have e1 := (hb4.cell (p := ⟨w3.heap.size, 1, none⟩) ZZ.out).trans d1
        have ef := fun j => (hb4.frozen (p := ⟨w3.heap.size, j, none⟩) ZZ.out).trans (df j)
        have hD4 : w3.heap.size < w4.heap.size := Nat.lt_of_lt_of_le ZZ.out hb4.size
        have O4 := Lib.hid (HR.out.keep hb4 HR.out.lt)
        obtain ⟨z0, c0⟩ := O4.out.cell (k * 4) (by omega)
        obtain ⟨z1, c1⟩ := O4.out.cell (k * 4 + 1) (by omega)
        obtain ⟨z2, c2⟩ := O4.out.cell (k * 4 + 2) (by omega)
        obtain ⟨z3, c3⟩ := O4.out.cell (k * 4 + 3) (by omega)
        have cf := O4.out.free
        have hgne : g ≠ w3.heap.size := by omega
        have hg4 : g < w4.heap.size := O4.out.lt
        have HXB := Lib.hid (show Box2 w4 w3.heap.size from ⟨fun j hj => by
          match j, hj with
          | 0, _ => exact ⟨_, e0⟩
          | 1, _ => exact ⟨_, e1⟩
          | j + 2, h => omega, ef⟩)
        clear hb4 d0 d1 df kx
        go_wp2
        go_roundw
        case rel =>
          obtain ⟨f1, f2, f3, f4, f5, f6⟩ := round_facts HBB.out B4.out ZZ.out O4.out HLR.out HLT.out HLE.out.2 HXB.out (n', b', Rp.what) _ _ rfl
          exact ⟨k + 1, by have := HLT.out; omega, by go_num, by rw [HT.out]; exact f1, f2, by rw [HU.out]; exact f3, by rw [HU.out]; exact f4, f5, f6⟩
        case measure => simp [intOf]; omega
    · obtain rfl : k = K := by omega
      have htk : (scL S).take k = scL S := List.take_of_length_le (by rw [scL_len, ← HKK.out]; exact Nat.le_refl _)
      rw [htk] at hr
      have HR := Lib.hid hr
      have HBB := Lib.hid hb
      clear hr hb d0 d1 df
      go_wp2
      go_ret2
      exact ⟨g, rfl, HR.out, G3.out.2.2, K3.out.1.trans (HBB.out.mono G3.out.2.2)⟩

end Go.Proofs.YtlbjeiaihenjkaaGreatDoor

/- from R3: The program's desk behind a script.  -/
namespace Go.Proofs.YtlbjeiaihenjkaaGreatDoor
open Go.RowKit
set_option linter.unusedVariables false
set_option linter.unusedSimpArgs false
set_option maxRecDepth 100000

theorem runS_at : ∀ (ls : List Tx) (n b : Int) (k : Nat), k < ls.length → ∃ r, (runS n b ls)[k]? = some r ∧ endS n b (ls.take (k + 1)) = (r.1, r.2.1)
  | [], _, _, k, h => by simp at h
  | l :: ls, n, b, 0, _ => ⟨ln1 n b l, rfl, rfl⟩
  | l :: ls, n, b, k + 1, h => by
    obtain ⟨r, h1, h2⟩ := runS_at ls (ln1 n b l).1 (ln1 n b l).2.1 k (by simpa using h)
    exact ⟨r, h1, h2⟩

theorem scriptLines_bad (S : Tx) (hn : ¬ scOk S) (pn pw : Addr) (w : World) (h : Env w pn pw) :
    Calls Tryz.prog 64 #[str S] w fun e w' => e = .returned (.tuple #[.slice none 0 0, .bool false]) ∧ Below w.heap.size w w' := by
  obtain ⟨x, hx, hl⟩ := spl_at 10 S
  by_cases h1 : S.length ≤ 3000
  · by_cases h3 : S.count 10 ≤ 50
    · by_cases h2 : x = []
      · subst h2
        exact absurd ⟨h1, hl, h3⟩ hn
      · exact scriptLines_last S h1 _ rfl h3 x hx h2 pn pw w h
    · exact scriptLines_many S h1 _ rfl h3 pn pw w h
  · exact (scriptLines_long S h1 w).mono fun e w' ⟨he, hw⟩ => ⟨he, by subst hw; exact Below.refl _ _⟩
theorem runScript_bad (S : Tx) (hn : ¬ scOk S) (pn pw : Addr) (w : World) (h : Env w pn pw) :
    Calls Tryz.prog 40 #[str S] w fun e w' => e = .returned (.tuple #[.slice none 0 0, .bool false]) ∧ Below w.heap.size w w' := by
  have HK := Lib.hid (scriptLines_bad S hn pn pw w h)
  clear h hn
  go_enter Tryz.func40, Tryz.ntmps40
  go_wp2_with fail
  refine HK.out.mono ?_
  rintro e w1 ⟨rfl, hb⟩
  have HB := Lib.hid hb
  clear hb
  go_wp2
  go_ret2
  exact ⟨rfl, HB.out⟩

theorem impl_DeskAfter_bad (S : Tx) (hn : ¬ scOk S) (pn pw : Addr) (w : World) (h : Env w pn pw) :
    Calls Tryz.prog 19 #[str S] w fun e w' => e = .returned (.tuple #[dsk 0 0, .bool false]) ∧ Below w.heap.size w w' := by
  have HK := Lib.hid (runScript_bad S hn pn pw _ (h.keep (alloc_belowD w (.cells #[.int .i64 0, .int .i64 0] 24))))
  clear h hn
  go_enter Tryz.func19, Tryz.ntmps19
  go_wp2_with fail
  refine HK.out.mono ?_
  rintro e w1 ⟨rfl, hb⟩
  obtain ⟨BX, hb1⟩ := box_alloc w w1 (hb.mono (by simp))
  have HX := Lib.hid BX
  have HB := Lib.hid hb1
  obtain ⟨y0, e0⟩ := BX.cell 0 (by omega)
  obtain ⟨y1, e1⟩ := BX.cell 1 (by omega)
  have ef := BX.free
  clear hb BX hb1
  go_wp2
  refine bodyPost_ret (ret_dk2 rfl _ _ w.heap.size _ _ rfl HX.out) rfl ?_
  exact ⟨rfl, set2_below HB.out (Nat.le_refl _) _ _⟩

/-- What a round leaves behind that only moves the desk on. -/
theorem move_facts {w2 wr : World} {pn pw : Addr} {g K : Nat} {rs : List (Int × Int × Rp)} (hb : Below w2.heap.size w2 wr) (hz : w2.heap.size + 1 ≤ wr.heap.size) (O : Os wr pn pw g K rs) (hgD : g < w2.heap.size)
    (hB : Box2 wr w2.heap.size) (n b : Int) (o : Obj) (W : World) (hW : W = (set2 wr w2.heap.size (.int .i64 n) (.int .i64 b)).alloc o) :
    Os W pn pw g K rs ∧ Below w2.heap.size w2 W ∧ W.cell? ⟨w2.heap.size, 0, none⟩ = some (.int .i64 n) ∧ W.cell? ⟨w2.heap.size, 1, none⟩ = some (.int .i64 b) ∧ (∀ j, W.frozen? ⟨w2.heap.size, j, none⟩ = false) ∧ w2.heap.size + 1 ≤ W.heap.size := by
  subst hW
  have hQz : (set2 wr w2.heap.size (.int .i64 n) (.int .i64 b)).heap.size = wr.heap.size := by simp [World.setCell]
  have ab := alloc_belowD (set2 wr w2.heap.size (.int .i64 n) (.int .i64 b)) o
  rw [hQz] at ab
  obtain ⟨c0, c1⟩ := set2_cells hB (.int .i64 n) (.int .i64 b)
  refine ⟨(O.keep (set2_below (Below.refl w2.heap.size wr) (Nat.le_refl _) _ _) hgD).keep ab (by omega), (set2_below hb (by omega) _ _).trans (ab.mono (by omega)), (ab.cell (p := ⟨w2.heap.size, 0, none⟩) (by show w2.heap.size < _; omega)).trans c0, (ab.cell (p := ⟨w2.heap.size, 1, none⟩) (by show w2.heap.size < _; omega)).trans c1, fun j => (ab.frozen (p := ⟨w2.heap.size, j, none⟩) (by show w2.heap.size < _; omega)).trans ?_, ?_⟩
  · have := hB.free j; simpa [go_sem] using this
  · have := ab.size; rw [hQz] at this; omega

theorem impl_DeskAfter_ok (S : Tx) (hok : scOk S) (pn pw : Addr) (w : World) (h : Env w pn pw) :
    Calls Tryz.prog 19 #[str S] w fun e w' => e = .returned (.tuple #[dsk (endS 7 10 (scL S)).1 (endS 7 10 (scL S)).2, .bool true]) ∧ Below w.heap.size w w' := by
  obtain ⟨rs, hrs⟩ : ∃ rs, rs = runS 7 10 (scL S) := ⟨_, rfl⟩
  obtain ⟨K, hK⟩ : ∃ K, K = rs.length := ⟨_, rfl⟩
  have HK := Lib.hid (runScript_ok S hok pn pw _ (h.keep (alloc_belowD w (.cells #[.int .i64 0, .int .i64 0] 24))))
  rw [← hrs, ← hK] at HK
  have hkl : K = (scL S).length := by rw [hK, hrs, runS_len]
  have hk50 : K ≤ 50 := by rw [hkl, scL_len]; exact hok.2.2
  have HA := Lib.hid (show ∀ k, k < K → ∃ r, rs[k]? = some r ∧ endS 7 10 ((scL S).take (k + 1)) = (r.1, r.2.1) from fun k hk => by rw [hrs]; exact runS_at (scL S) 7 10 k (by omega))
  have HL := Lib.hid (show (scL S).take K = scL S from List.take_of_length_le (by omega))
  clear h hok hrs hK hkl
  go_enter Tryz.func19, Tryz.ntmps19
  go_wp2_with fail
  refine HK.out.mono ?_
  rintro e w1 ⟨g, rfl, hO, hg, hb⟩
  have HB := Lib.hid (show Below (w.heap.size + 1) (w.alloc (.cells #[.int .i64 0, .int .i64 0] 24)) w1 from hb.mono (by simp))
  have O1 := Lib.hid hO
  have HG := Lib.hid (show w.heap.size + 1 ≤ g by simpa using hg)
  clear hb hO hg
  go_wp2_with fail
  refine (impl_FirstDesk _).mono ?_
  rintro e w2 ⟨rfl, hb⟩
  have O2 := Lib.hid (O1.out.keep hb O1.out.lt)
  have hgz := O2.out.lt
  have HB2 := Lib.hid (HB.out.trans (hb.mono (by have := HB.out.size; simpa using this)))
  clear hb
  have HZ := Lib.hid (show w.heap.size + 1 ≤ w2.heap.size by have := HB2.out.size; simpa using this)
  go_wp2
  go_loopw [20] (fun i wr => ∃ k : Nat, k ≤ K ∧ i = .int .i64 (k : Int) ∧ Os wr pn pw g K rs ∧ Below w2.heap.size w2 wr ∧ wr.cell? ⟨w2.heap.size, 0, none⟩ = some (.int .i64 (endS 7 10 ((scL S).take k)).1) ∧ wr.cell? ⟨w2.heap.size, 1, none⟩ = some (.int .i64 (endS 7 10 ((scL S).take k)).2) ∧ (∀ j, wr.frozen? ⟨w2.heap.size, j, none⟩ = false) ∧ w2.heap.size + 1 ≤ wr.heap.size) (fun i _ => K - (intOf i).toNat)
  case atStart =>
    have ab := alloc_belowD w2 (.cells #[.int .i64 7, .int .i64 10] 24)
    exact ⟨0, Nat.zero_le _, rfl, O2.out.keep ab hgz, ab, by simp [go_sem, endS], by simp [go_sem, endS], fun j => by simp [go_sem], by simp⟩
  case round =>
    obtain ⟨k, hk, rfl, hr, hb, d0, d1, df, hz⟩ := hrel
    have HR := Lib.hid hr
    have HBB := Lib.hid hb
    have ZZ := Lib.hid hz
    by_cases hlt : k < K
    · obtain ⟨r, hr1, hr2⟩ := HA.out k hlt
      have HU := Lib.hid hr2
      obtain ⟨n, hn⟩ : ∃ n, n = (endS 7 10 ((scL S).take k)).1 := ⟨_, rfl⟩
      obtain ⟨b, hbb⟩ : ∃ b, b = (endS 7 10 ((scL S).take k)).2 := ⟨_, rfl⟩
      rw [← hn] at d0
      rw [← hbb] at d1
      obtain ⟨c0, c1, c2, c3⟩ := hr.at' k r hr1
      obtain ⟨n', b', rp⟩ := r
      obtain ⟨ev, hev⟩ : ∃ ev, ev = rpL pn pw k rp := ⟨_, rfl⟩
      obtain ⟨T, hT⟩ : ∃ T, T = rpS rp := ⟨_, rfl⟩
      have hone : ev.oneCell' = true := by rw [hev]; cases rp <;> rfl
      dsimp only at c0 c1 c2 c3
      rw [← hev] at c3
      rw [← hT] at c2
      have hst := fun W q => run_store Tryz.prog W ⟨q, 3, none⟩ ev .plain hone
      have HXB := Lib.hid (show Box2 wr w2.heap.size from ⟨fun j hj => by
          match j, hj with
          | 0, _ => exact ⟨_, d0⟩
          | 1, _ => exact ⟨_, d1⟩
          | j + 2, h => omega, df⟩)
      have HLT := Lib.hid hlt
      have hk2 : k ≤ 50 := by omega
      have hgr : g < wr.heap.size := hr.lt
      have hDr : w2.heap.size < wr.heap.size := hz
      clear hr hb hr1 hr2 hn hbb hev hT hone
      go_wp2
      go_roundw
      case rel =>
        obtain ⟨f1, f2, f3, f4, f5, f6⟩ := move_facts HBB.out ZZ.out HR.out hgz HXB.out n' b' _ _ rfl
        exact ⟨k + 1, by have := HLT.out; omega, by go_num, f1, f2, by rw [HU.out]; exact f3, by rw [HU.out]; exact f4, f5, f6⟩
      case measure => simp [intOf]; omega
    · obtain rfl : k = K := by omega
      rw [HL.out] at d0 d1
      obtain ⟨BX, hb1⟩ := box_alloc w wr (HB2.out.trans (hb.mono HZ.out))
      have HX := Lib.hid BX
      have HBF := Lib.hid hb1
      obtain ⟨y0, e0⟩ := BX.cell 0 (by omega)
      obtain ⟨y1, e1⟩ := BX.cell 1 (by omega)
      have ef := BX.free
      obtain ⟨n', hn⟩ : ∃ n', n' = (endS 7 10 (scL S)).1 := ⟨_, rfl⟩
      obtain ⟨b', hbb⟩ : ∃ b', b' = (endS 7 10 (scL S)).2 := ⟨_, rfl⟩
      rw [← hn] at d0
      rw [← hbb] at d1
      have HN := Lib.hid (And.intro hn hbb)
      clear hr hb BX hb1 hn hbb
      go_wp2
      refine bodyPost_ret (ret_dk2 rfl _ _ w.heap.size _ _ rfl HX.out) rfl ?_
      exact ⟨by rw [← HN.out.1, ← HN.out.2]; rfl, set2_below HBF.out (Nat.le_refl _) _ _⟩

theorem impl_DeskAfter (S : Tx) (pn pw : Addr) (w : World) (h : Env w pn pw) :
    Calls Tryz.prog 19 #[str S] w fun e w' => e = .returned (.tuple #[dsk (scD S).1 (scD S).2, .bool (decide (scOk S))]) ∧ Below w.heap.size w w' := by
  by_cases hok : scOk S
  · have e : scD S = endS 7 10 (scL S) := if_pos hok
    rw [e, decide_eq_true hok]
    exact impl_DeskAfter_ok S hok pn pw w h
  · have e : scD S = (0, 0) := if_neg hok
    rw [e, decide_eq_false hok]
    exact impl_DeskAfter_bad S hok pn pw w h

end Go.Proofs.YtlbjeiaihenjkaaGreatDoor

/- from R4: The law of the desk behind a script.  -/
namespace Go.Proofs.YtlbjeiaihenjkaaGreatDoor
open Go.RowKit
set_option linter.unusedVariables false
set_option linter.unusedSimpArgs false
set_option maxRecDepth 100000

theorem law_DeskAfter (S : Tx) (pn pw : Addr) (w : World) (h : Env w pn pw) : Calls Tryz.prog 5 #[str S] w fun e w' => e = .returned (.bool true) ∧ Below w.heap.size w w' := by
  have HI := Lib.hid (fun w' hw => impl_DeskAfter S pn pw w' hw)
  have HS := Lib.hid (spec_DeskAfter S)
  have HE := Lib.hid (fun w' (hb : Below w.heap.size w w') => h.keep hb)
  clear h
  obtain ⟨n', b', hR⟩ : ∃ n' b', scD S = (n', b') := ⟨_, _, rfl⟩
  obtain ⟨q, hq⟩ : ∃ q, q = decide (scOk S) := ⟨_, rfl⟩
  rw [hR, ← hq] at HI HS
  clear hR hq
  dsimp only at HI HS
  have HQ := Lib.hid (eqDesk_same n' b')
  go_enter Tryz.func5, Tryz.ntmps5
  go_wp2_with fail
  · go_ret
    exact ⟨rfl, Below.refl _ _⟩
  refine (HS.out _).mono ?_
  rintro e w2 ⟨rfl, hb⟩
  have A2 := Lib.hid hb
  clear hb
  have BG := Lib.hid (cell2_facts w2 (.int .i64 n') (.int .i64 b') 24)
  obtain ⟨v2, hv2⟩ : ∃ v2, v2 = w2.alloc (.cells #[.int .i64 n', .int .i64 b'] 24) := ⟨_, rfl⟩
  have A3 := Lib.hid (show Below w.heap.size w v2 from A2.out.trans (by rw [hv2]; exact (alloc_belowD _ _).mono A2.out.size))
  have Y3 := Lib.hid (show w2.heap.size + 1 ≤ v2.heap.size by rw [hv2]; simp)
  rw [← hv2] at BG
  go_wp2_with fail
  rw [← hv2]
  clear hv2
  refine (HI.out _ (HE.out _ A3.out)).mono ?_
  rintro e w4 ⟨rfl, hb⟩
  have A5 := Lib.hid (A3.out.trans (hb.mono A3.out.size))
  have B5 := Lib.hid (show Below (w2.heap.size + 1) v2 w4 from hb.mono Y3.out)
  clear hb
  have A6 := Lib.hid (A5.out.trans ((alloc_belowD w4 (.cells #[.int .i64 n', .int .i64 b'] 24)).mono A5.out.size))
  have B6 := Lib.hid (B5.out.trans ((alloc_belowD w4 (.cells #[.int .i64 n', .int .i64 b'] 24)).mono (BG.out _ B5.out).2.2.2))
  obtain ⟨k0, k1, _, _⟩ := BG.out _ B6.out
  go_wp2_with fail
  refine (HQ.out _).mono ?_
  rintro e w5 ⟨rfl, hb⟩
  have A7 := Lib.hid (A6.out.trans (hb.mono A6.out.size))
  clear hb k0 k1
  go_wp2
  go_ret
  exact ⟨rfl, A7.out⟩

end Go.Proofs.YtlbjeiaihenjkaaGreatDoor
