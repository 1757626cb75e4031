/-
  Numbers by their proper sums: tables of sources, the program's and the model's.
-/
import Derived.Test.Ytlpmfapjgmhbhaa8G
import Derived.Test.Ytlpmfapjgmhbhaa8L
import Derived.Deep.AppendLies
namespace Go.Proofs.Ytlpmfapjgmhbhaa
open Go.RowKit
set_option linter.unusedVariables false
set_option linter.unusedSimpArgs false
set_option maxRecDepth 100000

/-- The numbers 1 .. k with the proper sum s. -/
def srcTo (s : Int) : Nat → List Int
  | 0 => []
  | k + 1 => if prop ((k + 1 : Nat) : Int) = s then srcTo s k ++ [((k + 1 : Nat) : Int)] else srcTo s k
theorem srcTo_hit {s : Int} {k : Nat} (h : prop ((k + 1 : Nat) : Int) = s) : srcTo s (k + 1) = srcTo s k ++ [((k + 1 : Nat) : Int)] := if_pos h
theorem srcTo_miss {s : Int} {k : Nat} (h : ¬ prop ((k + 1 : Nat) : Int) = s) : srcTo s (k + 1) = srcTo s k := if_neg h
theorem srcTo_len (s : Int) : ∀ k, (srcTo s k).length ≤ k
  | 0 => by simp [srcTo]
  | k + 1 => by
    have := srcTo_len s k
    by_cases h : prop ((k + 1 : Nat) : Int) = s
    · rw [srcTo_hit h]; simp; omega
    · rw [srcTo_miss h]; omega
theorem prop_one : prop 1 = 0 := by
  have h : pp 1 = [] := pws_none (by omega) (by omega)
  unfold prop
  rw [h]; rfl
theorem srcTo_one {s : Int} (h : s ≠ 0) : srcTo s 1 = [] := by
  rw [srcTo_miss (k := 0) (by rw [show ((0 + 1 : Nat) : Int) = 1 from rfl, prop_one]; omega)]; rfl

/-- The table of sources of 2 .. m among the first k numbers. -/
def tab (m k : Nat) : List (List Int) := (List.range (m + 1)).map fun (s : Nat) => if 2 ≤ s then srcTo (s : Int) k else []
theorem tab_len (m k : Nat) : (tab m k).length = m + 1 := by simp [tab]
theorem tab_get (m k s : Nat) (h : s < (tab m k).length) : (tab m k)[s] = if 2 ≤ s then srcTo (s : Int) k else [] := by simp [tab]
theorem tab_zero (m : Nat) : tab m 0 = List.replicate (m + 1) [] := by
  apply List.ext_getElem
  · simp [tab]
  · intro i h1 h2
    rw [tab_get]
    simp [srcTo]
theorem tab_hit {m k s : Nat} (hs : 2 ≤ s) (hm : s ≤ m) (h : prop ((k + 1 : Nat) : Int) = (s : Int)) : tab m (k + 1) = (tab m k).set s (srcTo (s : Int) k ++ [((k + 1 : Nat) : Int)]) := by
  apply List.ext_getElem
  · simp [tab]
  · intro i h1 h2
    rw [tab_get, List.getElem_set]
    by_cases e : s = i
    · subst e
      rw [if_pos hs, if_pos rfl, srcTo_hit h]
    · rw [if_neg e, tab_get]
      rw [srcTo_miss (by rw [h]; omega)]
theorem tab_miss {m k : Nat} (h : ∀ s : Nat, 2 ≤ s → s ≤ m → ¬ prop ((k + 1 : Nat) : Int) = (s : Int)) : tab m (k + 1) = tab m k := by
  apply List.ext_getElem
  · simp [tab]
  · intro i h1 h2
    rw [tab_get, tab_get]
    by_cases hi : 2 ≤ i
    · rw [if_pos hi, if_pos hi, srcTo_miss (h i hi (by rw [tab_len] at h2; omega))]
    · rw [if_neg hi, if_neg hi]

theorem wpList_appI {w : World} {ops : Array Oper} {rest : List Oper} {o : Oper} {a : Act} {Q : Exit → Act → World → Prop} (hgd : o.guard = none) (s x : Operand)
    (ho : o.op = .call { callee := .builtin .append, args := #[s, x], argTypes := #[28, 28] })
    (B C : Nat) (v u : Value) (xs ys : List Int) (hs : a.eval s = v) (hx : a.eval x = u) (hv : Rd w B v xs) (hu : Rd w C u ys) (h0 : 0 < ys.length)
    (hlen : xs.length + ys.length ≤ 2000000) (hB : B ≤ w.heap.size)
    (h : ∀ g cap w', Rd w' B (.slice (some ⟨g, 0, none⟩) (xs.length + ys.length) cap) (xs ++ ys) → w.grownBy w' v.ownBlock → Below B w w' → (v.ownBlock = some g ∨ g = w.heap.size) → wpList Try.prog ops Q rest (a.put o.dst (.slice (some ⟨g, 0, none⟩) (xs.length + ys.length) cap)) w') : wpList Try.prog ops Q (o :: rest) a w := by
  obtain ⟨i0, hi, hz0, hz2, hz3⟩ := info_parts info3
  have hbel : ∀ w', w.grownBy w' v.ownBlock → Below B w w' := fun w' hg => (Below.refl _ _).grown hg hB (fun k hk => (hv.lt k hk).1)
  rcases hu.cases with ⟨rfl, rfl⟩ | ⟨g, cap, rfl, _, _, _, _, hc, _⟩
  · simp at h0
  · refine wpList_append_lies w hgd s x 28 ho B 3 i0 (.int .i64 0) 1 8 Try.underlying28 hi hz0 hz2 hz3 rfl (by decide) v xs.length _ hs hv ⟨g, 0, none⟩ ys.length cap (ys.map (Value.int .i64)) hx (by simp) ?_ (ints_oneCell _ _) h0 (by unfold maxLen; omega) (by omega) hB w.heap.size rfl ?_
    · intro j q hj
      have hj' : j < ys.length := by
        have := (List.getElem?_eq_some_iff.1 hj).1
        simpa using this
      rw [addr_add, Nat.zero_add, hc j hj', ← hj]
      simp [hj']
    · intro g' cap' w' h2 h3 h4 _
      refine h g' cap' w' ?_ h3 (hbel w' h3) h4
      unfold Rd
      rw [List.length_append, List.map_append]
      exact h2

theorem LLi.get {w : World} {B : Nat} {v : Value} {vs : List Value} {ls : List (List Int)} (h : LLi w B v vs ls) (i : Nat) (hi : i < ls.length) : ∃ u g cap, vs[i]? = some u ∧ v = .slice (some ⟨g, 0, none⟩) ls.length cap ∧ w.cell? ⟨g, i, none⟩ = some u ∧ w.frozen? ⟨g, i, none⟩ = false ∧ Rd w B u ls[i] := by
  have hl := h.len
  have hz : vs[i]? = some (vs[i]'(by omega)) := by simp [show i < vs.length by omega]
  rcases h.row.cases with ⟨_, h0⟩ | ⟨g, cap, hv⟩
  · rw [h0] at hl; simp at hl; omega
  · have hrow := h.row
    rw [hv] at hrow
    refine ⟨_, g, cap, hz, by rw [hv, hl], ?_, hrow.at.2.2.2.2.2.2 i, h.at' i _ _ hz (by simp [hi])⟩
    exact hrow.at.2.2.2.2.2.1 i (by omega)

/-- One of the slices put in another's place, apart from all others. -/
theorem LLi.set2 {w w' : World} {B i : Nat} {v u : Value} {vs : List Value} {ls : List (List Int)} {l : List Int} (h : ∀ (j : Nat) (z : Value) (m : List Int), j ≠ i → vs[j]? = some z → ls[j]? = some m → Rd w B z m) (hrow : Rg 28 w B v vs) (hlen : vs.length = ls.length)
    (hap : ∀ (j k : Nat) (z y : Value), j < k → vs[j]? = some z → vs[k]? = some y → z.ownBlock = none ∨ z.ownBlock ≠ y.ownBlock) (hu : Rd w B u l) (ha : ∀ (j : Nat) (z : Value), j ≠ i → vs[j]? = some z → z.ownBlock = none ∨ z.ownBlock ≠ u.ownBlock)
    (hg : w.grownBy w' v.ownBlock) (hr : Rg 28 w' B v (vs.set i u)) : LLi w' B v (vs.set i u) (ls.set i l) := by
  refine ⟨hr, by simp [hlen], fun j z m hz hm => ?_, fun j k z y hjk hz hy => ?_⟩
  · rw [List.getElem?_set] at hz hm
    by_cases e : i = j
    · subst e
      rw [if_pos rfl] at hz hm
      by_cases hl : i < vs.length
      · rw [if_pos hl] at hz
        rw [if_pos (by rw [← hlen]; exact hl)] at hm
        cases hz; cases hm
        exact hu.grown hg (rd_not_row hu hrow)
      · rw [if_neg hl] at hz; cases hz
    · rw [if_neg e] at hz hm
      have := h j z m (fun c => e c.symm) hz hm
      exact this.grown hg (rd_not_row this hrow)
  · rw [List.getElem?_set] at hz hy
    by_cases e : i = j
    · subst e
      rw [if_pos rfl] at hz
      rw [if_neg (by omega)] at hy
      by_cases hl : i < vs.length
      · rw [if_pos hl] at hz
        cases hz
        exact apart_sym2 (ha k y (by omega) hy)
      · rw [if_neg hl] at hz; cases hz
    · rw [if_neg e] at hz
      by_cases e2 : i = k
      · subst e2
        rw [if_pos rfl] at hy
        by_cases hl : i < vs.length
        · rw [if_pos hl] at hy
          cases hy
          exact ha j z (fun c => e c.symm) hz
        · rw [if_neg hl] at hy; cases hy
      · rw [if_neg e2] at hy
        exact hap j k z y hjk hz hy

theorem LLi.nils {w : World} {B n : Nat} {v : Value} (h : Rg 28 w B v (List.replicate n (.slice none 0 0))) : LLi w B v (List.replicate n (.slice none 0 0)) (List.replicate n []) := by
  refine ⟨h, by simp, fun j z m hz hm => ?_, fun j k z y hjk hz hy => ?_⟩
  · have h1 := (List.mem_replicate.1 (List.mem_of_getElem? hz)).2
    have h2 := (List.mem_replicate.1 (List.mem_of_getElem? hm)).2
    subst h1; subst h2
    exact Rd.nil _ _
  · have h1 := (List.mem_replicate.1 (List.mem_of_getElem? hz)).2
    subst h1
    exact .inl rfl

/-- What an append behind one of the slices leaves of the others, and the store of what it gives. -/
theorem LLi.grow {w w1 w2 w3 : World} {B i g0 g n cap0 cap : Nat} {u : Value} {vs : List Value} {ls : List (List Int)} {l' : List Int} {o : Obj}
    (h : LLi w B (.slice (some ⟨g0, 0, none⟩) n cap0) vs ls) (hi : vs[i]? = some u) (h1 : w1 = w.alloc o) (hr : Rd w2 B (.slice (some ⟨g, 0, none⟩) l'.length cap) l') (hg : w1.grownBy w2 u.ownBlock) (hl : u.ownBlock = some g ∨ g = w1.heap.size)
    (h3 : w3 = w2.setCell ⟨g0, i, none⟩ (.slice (some ⟨g, 0, none⟩) l'.length cap)) : LLi w3 B (.slice (some ⟨g0, 0, none⟩) n cap0) (vs.set i (.slice (some ⟨g, 0, none⟩) l'.length cap)) (ls.set i l') ∧ w2.grownBy w3 (some g0) := by
  subst h1 h3
  have hA := h.alloc o
  obtain ⟨lu, hlu, hru⟩ := hA.rd hi
  have hrow2 : Rg 28 w2 B (.slice (some ⟨g0, 0, none⟩) n cap0) vs := hA.row.grown hg (row_not_rd hru hA.row)
  have hst := hrow2.set i (.slice (some ⟨g, 0, none⟩) l'.length cap)
  have hapart : ∀ (j : Nat) (z : Value), j ≠ i → vs[j]? = some z → z.ownBlock = none ∨ z.ownBlock ≠ u.ownBlock := fun j z hj hz => by
    by_cases hlt : j < i
    · exact h.apart j i z u hlt hz hi
    · exact apart_sym2 (h.apart i j u z (by omega) hi hz)
  refine ⟨LLi.set2 (fun j z m hj hz hm => (hA.at' j z m hz hm).grown hg (hapart j z hj hz)) hrow2 h.len h.apart hr (fun j z hj hz => ?_) hst.2 hst.1, hst.2⟩
  cases hq : z.ownBlock with
  | none => exact .inl rfl
  | some q =>
    right
    intro e
    simp only [Value.ownBlock, Option.some.injEq] at e
    rcases hl with hl | hl
    · rcases hapart j z hj hz with c | c
      · rw [hq] at c; cases c
      · exact c (by rw [hq, hl, e])
    · obtain ⟨m, _, hm⟩ := h.rd hz
      have := (hm.lt q hq).2
      rw [World.size_alloc] at hl
      omega

theorem sq_le {m : Int} (h0 : 0 ≤ m) (h : m ≤ 100) : 0 ≤ (m - 1) * (m - 1) ∧ (m - 1) * (m - 1) ≤ 9801 := by
  have h1 : (m - 1) * (m - 1) = m * m - 2 * m + 1 := by grind
  by_cases hm : m = 0
  · subst hm; decide
  · constructor
    · exact Int.mul_nonneg (by omega) (by omega)
    · have := Int.mul_le_mul (show m - 1 ≤ 99 by omega) (show m - 1 ≤ 99 by omega) (by omega) (by omega)
      omega
/-- How far sources of 2 .. m are looked for. -/
def upTo (m : Nat) : Nat := (((m : Int) - 1) * ((m : Int) - 1)).toNat

theorem infoLL : (Try.prog.info? 28).map (fun i => (i.zero, i.size, i.bytes)) = some (some (.slice none 0 0), 1, 24) := by kernel_rfl

theorem sourcesUpTo_any (m : Nat) (w : World) (hm : m ≤ 100) :
    Calls Try.prog 67 #[.int .i64 (m : Int)] w fun e w' => ∃ v vs, e = .returned v ∧ LLi w' w.heap.size v vs (tab m (upTo m)) ∧ Below w.heap.size w w' := by
  obtain ⟨q0, q1⟩ := sq_le (m := (m : Int)) (by omega) (by omega)
  have HU := Lib.hid (show (upTo m : Int) = ((m : Int) - 1) * ((m : Int) - 1) by unfold upTo; omega)
  obtain ⟨NN, hNN⟩ : ∃ NN, NN = upTo m := ⟨_, rfl⟩
  rw [← hNN] at HU ⊢
  have hNb : NN ≤ 9801 := by have := HU.out; omega
  clear hNN
  go_enter Try.func67, Try.ntmps67
  go_wp2_with (at_make; refine wpList_mkG rfl _ _ 34 28 (.slice none 0 0) 24 Try.underlying34 infoLL (by omega) rfl rfl .i64 .i64 _ _ (m + 1) rfl rfl (by omega) (by omega) (by omega) ?_; intro w1 hr1 hg1 hb1; have HL1 := Lib.hid (LLi.nils hr1); have HB1 := Lib.hid hb1; clear hr1 hg1 hb1)
  go_loopw [4] (fun i wr => ∃ (k : Nat) (vs : List Value), i = .int .i64 ((k + 1 : Nat) : Int) ∧ k ≤ NN ∧ LLi wr w.heap.size (.slice (some ⟨w.heap.size, 0, none⟩) (m + 1) (m + 1)) vs (tab m k) ∧ Below w.heap.size w wr) (fun i _ => NN + 1 - (intOf i).toNat)
  case atStart => exact ⟨0, _, rfl, Nat.zero_le _, by rw [tab_zero]; exact HL1.out, HB1.out⟩
  case round =>
    obtain ⟨k, vs, rfl, hk, hl, hb⟩ := hrel
    have HL := Lib.hid hl
    have HB := Lib.hid hb
    clear hl hb
    by_cases hlt : k < NN
    · have hle : ((k + 1 : Nat) : Int) ≤ ((m : Int) - 1) * ((m : Int) - 1) := by have := HU.out; omega
      have hDv : Dv ((k + 1 : Nat) : Int) := ⟨by omega, by omega⟩
      have HP := Lib.hid (fun w' => properSum_any ((k + 1 : Nat) : Int) w' hDv)
      have pb := prop_bd (n := ((k + 1 : Nat) : Int)) (by omega) (by omega)
      have HT1 := Lib.hid (fun (s : Nat) (h1 : 2 ≤ s) (h2 : s ≤ m) (h : prop ((k + 1 : Nat) : Int) = (s : Int)) => tab_hit h1 h2 h)
      have HT2 := Lib.hid (fun h => tab_miss (m := m) (k := k) h)
      obtain ⟨s, hs⟩ : ∃ s, s = prop ((k + 1 : Nat) : Int) := ⟨_, rfl⟩
      rw [← hs] at HP pb HT1 HT2
      obtain ⟨s0, s1, _, _⟩ := pb
      clear hs
      obtain ⟨K, hK⟩ : ∃ K, K = k + 1 := ⟨_, rfl⟩
      have HK := Lib.hid hK
      rw [← hK] at HP HT1 HT2 hle ⊢
      have hKb : K ≤ 9801 := by omega
      clear hDv hK
      by_cases h2 : 2 ≤ s
      · by_cases h3 : s ≤ (m : Int)
        · obtain ⟨S, rfl⟩ : ∃ S : Nat, s = (S : Int) := ⟨s.toNat, by omega⟩
          have hSm : S ≤ m := by omega
          have hS2 : 2 ≤ S := by omega
          obtain ⟨u, g, cap, e1, e2, e3, e4, e5⟩ := HL.out.get S (by rw [tab_len]; omega)
          have HT := Lib.hid (HT1.out S hS2 hSm rfl)
          rw [tab_get, if_pos hS2] at e5
          have hl5 := srcTo_len (S : Int) k
          obtain ⟨l, hl⟩ : ∃ l, l = srcTo (S : Int) k := ⟨_, rfl⟩
          rw [← hl] at HT e5 hl5
          simp only [Value.slice.injEq, Option.some.injEq, Addr.mk.injEq, and_true, true_and] at e2
          obtain rfl : g = w.heap.size := e2.1.symm
          clear e2
          obtain ⟨a6, c6, rfl⟩ := e5.sl.len
          have HR5 := Lib.hid e5
          have HE1 := Lib.hid e1
          have hrowlt : w.heap.size < wr.heap.size := by have := HL.out.row.lt _ rfl; exact this.2
          clear hl e1 e5 HT1 HT2
          go_wp2_with (first | (go_at_call 58; refine (HP.out _).mono ?_; rintro e w2 ⟨rfl, hb2⟩; have HL2 := Lib.hid (HL.out.keep hb2); have HB2 := Lib.hid (Below.step HB.out HB.out.size hb2); have HR2 := Lib.hid (HR5.out.keep hb2); have f3 := Below.keeps_cell hb2 e3; have hsz2 := hb2.size; clear hb2) | (at_builtin; refine wpList_appI rfl _ _ rfl w.heap.size w.heap.size _ _ l [(K : Int)] rfl rfl (HR2.out.alloc _) (Rd.litB _ _ _ HB2.out.size) (by simp) (by simp; omega) (by have := HB2.out.size; simp; omega) ?_; intro g7 c7 w7 hr7 hg7 hb7 hl7; have HR7 := Lib.hid hr7; have hg7' : (w2.alloc (.cells #[.int .i64 (K : Int)] 3)).grownBy w7 (Value.slice a6 l.length c6).ownBlock := hg7; have HG7 := Lib.hid hg7'; have HB7 := Lib.hid ((HB2.out.alloc HB2.out.size _).trans hb7); have hl7' : (Value.slice a6 l.length c6).ownBlock = some g7 ∨ g7 = (w2.alloc (.cells #[.int .i64 (K : Int)] 3)).heap.size := hl7; have HL7 := Lib.hid hl7'; have hrw7 := (HL2.out.alloc (.cells #[.int .i64 (K : Int)] 3)).row.grown hg7' (row_not_rd (HR2.out.alloc _) (HL2.out.alloc (.cells #[.int .i64 (K : Int)] 3)).row); have z7 := hrw7.at; obtain ⟨u7, hcell7⟩ : ∃ q, w7.cell? ⟨w.heap.size, S, none⟩ = some q := ⟨_, z7.2.2.2.2.2.1 S (by rw [HL2.out.len, tab_len]; omega)⟩; have hfro7 := z7.2.2.2.2.2.2 S; clear hr7 hg7 hg7' hb7 hl7 hl7' hrw7 z7))
          have HGR := Lib.hid (HL2.out.grow (l' := l ++ [(K : Int)]) (w3 := w7.setCell ⟨w.heap.size, S, none⟩ (.slice (some ⟨g7, 0, none⟩) (l ++ [(K : Int)]).length c7)) HE1.out rfl (by rw [List.length_append]; exact HR7.out) HG7.out HL7.out rfl)
          rw [show (l ++ [(K : Int)]).length = l.length + 1 by simp] at HGR
          go_roundw
          case rel => exact ⟨K, _, by go_num, by have := HK.out; omega, by rw [HT.out]; exact HGR.out.1, HB7.out.grown HGR.out.2 HB7.out.size (fun q hq => by cases hq; exact Nat.le_refl _)⟩
          case measure => have := HK.out; simp [intOf]; omega
        · have HT := Lib.hid (HT2.out (fun q q1 q2 => by omega))
          clear HT1 HT2
          go_wp2_with (go_at_call 58; refine (HP.out _).mono ?_; rintro e w2 ⟨rfl, hb2⟩; have HL2 := Lib.hid (HL.out.keep hb2); have HB2 := Lib.hid (Below.step HB.out HB.out.size hb2); clear hb2)
          go_roundw
          case rel => exact ⟨K, _, by go_num, by have := HK.out; omega, by rw [HT.out]; exact HL2.out, HB2.out⟩
          case measure => have := HK.out; simp [intOf]; omega
      · have HT := Lib.hid (HT2.out (fun q q1 q2 => by omega))
        clear HT1 HT2
        go_wp2_with (go_at_call 58; refine (HP.out _).mono ?_; rintro e w2 ⟨rfl, hb2⟩; have HL2 := Lib.hid (HL.out.keep hb2); have HB2 := Lib.hid (Below.step HB.out HB.out.size hb2); clear hb2)
        go_roundw
        case rel => exact ⟨K, _, by go_num, by have := HK.out; omega, by rw [HT.out]; exact HL2.out, HB2.out⟩
        case measure => have := HK.out; simp [intOf]; omega
    · obtain rfl : k = NN := by omega
      have hle : ¬ ((k + 1 : Nat) : Int) ≤ ((m : Int) - 1) * ((m : Int) - 1) := by have := HU.out; omega
      go_wp2
      go_ret
      exact ⟨_, rfl, ⟨_, HL.out⟩, HB.out⟩

end Go.Proofs.Ytlpmfapjgmhbhaa
