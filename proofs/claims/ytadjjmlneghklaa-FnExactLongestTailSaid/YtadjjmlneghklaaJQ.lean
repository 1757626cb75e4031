/-
  All lists of gaps: plain mathematics, the program's and the model's.
-/
import Derived.Test.YtadjjmlneghklaaJP
import Derived.Test.YtadjjmlneghklaaJI
import Derived.Deep.AppendLies
namespace Go.Proofs.Ytadjjmlneghklaa
open Go.RowKit
set_option linter.unusedVariables false
set_option linter.unusedSimpArgs false
set_option maxRecDepth 100000

/-- All lists of k numbers in 0..m that do not rise, in their order. -/
def ndr : Nat → Nat → List (List Int)
  | 0, _ => [[]]
  | k + 1, m => (List.range (m + 1)).flatMap fun x => (ndr k x).map fun l => (x : Int) :: l
/-- Those whose first number is below x. -/
def ndrTo (k x : Nat) : List (List Int) := (List.range x).flatMap fun y => (ndr k y).map fun l => (y : Int) :: l
theorem ndr_succ (k m : Nat) : ndr (k + 1) m = ndrTo k (m + 1) := rfl
theorem ndrTo_zero (k : Nat) : ndrTo k 0 = [] := rfl
theorem ndrTo_succ (k x : Nat) : ndrTo k (x + 1) = ndrTo k x ++ (ndr k x).map fun l => (x : Int) :: l := by
  unfold ndrTo; rw [List.range_succ, List.flatMap_append]; simp
/-- How many they are. -/
def ndrC : Nat → Nat → Nat
  | 0, _ => 1
  | k + 1, m => ((List.range (m + 1)).map fun x => ndrC k x).sum
theorem ndr_len : ∀ (k m : Nat), (ndr k m).length = ndrC k m
  | 0, _ => rfl
  | k + 1, m => by
    unfold ndr ndrC
    rw [List.length_flatMap]
    congr 1
    apply List.map_congr_left
    intro x _
    rw [List.length_map, ndr_len k x]
theorem ndrC_allB : (List.range 5).all (fun k => (List.range 16).all fun m => decide (ndrC k m ≤ 3876)) = true := by decide +kernel
theorem ndr_bd {k m : Nat} (hk : k ≤ 4) (hm : m ≤ 15) : (ndr k m).length ≤ 3876 := by
  have h := ndrC_allB
  simp only [List.all_eq_true, List.mem_range, decide_eq_true_eq] at h
  rw [ndr_len]
  exact h k (by omega) m (by omega)
theorem ndrTo_bd {k x : Nat} (hk : k + 1 ≤ 4) (hx : x ≤ 16) : (ndrTo k x).length ≤ 3876 := by
  cases x with
  | zero => simp [ndrTo]
  | succ x => rw [← ndr_succ]; exact ndr_bd hk (by omega)
theorem ndr_all : ∀ (k m : Nat), ∀ l ∈ ndr k m, l.length = k
  | 0, _, l, h => by simp [ndr] at h; rw [h]; rfl
  | k + 1, m, l, h => by
    unfold ndr at h
    rw [List.mem_flatMap] at h
    obtain ⟨x, _, h⟩ := h
    rw [List.mem_map] at h
    obtain ⟨r, hr, rfl⟩ := h
    rw [List.length_cons, ndr_all k x r hr]

/-- One more slice behind slices. -/
theorem LLi.snocB {w w' : World} {B : Nat} {v v' u : Value} {vs : List Value} {ls : List (List Int)} {l : List Int} {o : Obj} (h : LLi w B v vs ls) (hu : Rd w B u l) (ha : ∀ (i : Nat) (z : Value), vs[i]? = some z → z.ownBlock = none ∨ z.ownBlock ≠ u.ownBlock)
    (hr : Rg 33 w' B v' (vs ++ [u])) (hg : (w.alloc o).grownBy w' v.ownBlock) : LLi w' B v' (vs ++ [u]) (ls ++ [l]) := h.snoc hu ha hr hg

theorem LLi.und {w : World} {B : Nat} {v : Value} {vs : List Value} {ls : List (List Int)} (h : LLi w B v vs ls) : Und w.heap.size v vs :=
  ⟨fun k hk => (h.row.lt k hk).2, fun i u hu k hk => by obtain ⟨l, _, hr⟩ := h.rd hu; exact (hr.lt k hk).2⟩

theorem LLi.one {w : World} {B : Nat} {u : Value} {l : List Int} (h : Rd w B u l) (hB : B ≤ w.heap.size) : LLi (w.alloc (.cells #[u] 33)) B (.slice (some ⟨w.heap.size, 0, none⟩) 1 1) [u] [l] :=
  ⟨Rg.lit _ _ _ _ hB, rfl, fun i z m hz hm => by
    cases i with
    | zero => simp only [List.getElem?_cons_zero, Option.some.injEq] at hz hm; subst hz; subst hm; exact h.alloc _
    | succ i => simp at hz, fun i j z y hij hz hy => by
    have := (List.getElem?_eq_some_iff.1 hy).1
    simp at this
    omega⟩

theorem wpList_appL {w : World} {ops : Array Oper} {rest : List Oper} {o : Oper} {a : Act} {Q : Exit → Act → World → Prop} (hgd : o.guard = none) (s x : Operand) (t e : TypeId) (z : Value) (bytes : Nat)
    (ht : Try.prog.underlying t = some (.slice e)) (hinfo : (Try.prog.info? e).map (fun i => (i.zero, i.size, i.bytes)) = some (some z, 1, bytes)) (hby : bytes ≤ 24) (hz1 : z.cells.size = 1)
    (ho : o.op = .call { callee := .builtin .append, args := #[s, x], argTypes := #[t, t] })
    (B C : Nat) (v u : Value) (xs ys : List Value) (hs : a.eval s = v) (hx : a.eval x = u) (hv : Rg e w B v xs) (hu : Rg e w C u ys) (h1 : ∀ q ∈ ys, q.oneCell' = true) (h0 : 0 < ys.length)
    (hlen : xs.length + ys.length ≤ 2000000) (hB : B ≤ w.heap.size)
    (h : ∀ g cap w', Rg e w' B (.slice (some ⟨g, 0, none⟩) (xs.length + ys.length) cap) (xs ++ ys) → w.grownBy w' v.ownBlock → Below B w w' → (v.ownBlock = some g ∨ g = w.heap.size) → wpList Try.prog ops Q rest (a.put o.dst (.slice (some ⟨g, 0, none⟩) (xs.length + ys.length) cap)) w') : wpList Try.prog ops Q (o :: rest) a w := by
  obtain ⟨i0, hi, hz0, hz2, hz3⟩ := info_parts hinfo
  have hbel : ∀ w', w.grownBy w' v.ownBlock → Below B w w' := fun w' hg => (Below.refl _ _).grown hg hB (fun k hk => (hv.lt k hk).1)
  rcases hu.cases with ⟨rfl, rfl⟩ | ⟨g, cap, rfl⟩
  · simp at h0
  · obtain ⟨_, _, _, _, _, hc, _⟩ := hu.at
    refine wpList_append_lies w hgd s x t ho B e i0 z 1 bytes ht hi hz0 hz2 hz3 hz1 (by decide) v xs.length _ hs hv ⟨g, 0, none⟩ ys.length cap ys hx (by simp) ?_ h1 h0 (by unfold maxLen; omega) (by have := Nat.mul_le_mul hlen hby; omega) hB w.heap.size rfl ?_
    · intro j q hj
      have hj' : j < ys.length := (List.getElem?_eq_some_iff.1 hj).1
      have e : (⟨g, 0, none⟩ : Addr).add j = ⟨g, j, none⟩ := by unfold Addr.add; split <;> simp_all
      rw [e, hc j hj', ← hj]
      simp [hj']
    · intro g' cap' w' h2 h3 h4 _
      refine h g' cap' w' ?_ h3 (hbel w' h3) h4
      unfold Rg
      rw [List.length_append]
      exact h2

/-- Not between D and C. -/
def OutV (D C : Nat) (v : Value) : Prop := ∀ k, v.ownBlock = some k → k < D ∨ C ≤ k
theorem Rd.src {w : World} {B : Nat} {v : Value} {xs : List Int} (h : Rd w B v xs) : Src w v xs := by
  rcases h.cases with ⟨rfl, rfl⟩ | ⟨g, cap, rfl, _, _, _, _, hc, _⟩
  · exact .inl ⟨rfl, rfl⟩
  · refine .inr ⟨⟨g, 0, none⟩, cap, rfl, fun j hj => ?_⟩
    rw [addr_add, Nat.zero_add, hc j hj]
theorem LLi.far {w : World} {D : Nat} {v u : Value} {vs : List Value} {xs : List Int} (hd : Und D v vs) (hu : Rd w D u xs) : ∀ (i : Nat) (z : Value), vs[i]? = some z → z.ownBlock = none ∨ z.ownBlock ≠ u.ownBlock := fun i z hz => by
  cases hq : z.ownBlock with
  | none => exact .inl rfl
  | some k =>
    right
    intro e
    have h1 := (hu.lt k e.symm).1
    have h2 := hd.2 i z hz k hq
    omega

/-- Slices behind slices. -/
theorem LLi.append {w w' : World} {B C : Nat} {v v' u : Value} {vs us : List Value} {ls ms : List (List Int)} (h : LLi w B v vs ls) (h2 : LLi w C u us ms) (hC : B ≤ C) (ha : Und C v vs)
    (hr : Rg 33 w' B v' (vs ++ us)) (hg : w.grownBy w' v.ownBlock) : LLi w' B v' (vs ++ us) (ls ++ ms) := by
  refine ⟨hr, by simp [h.len, h2.len], fun i z m hz hm => ?_, fun i j z y hij hz hy => ?_⟩
  · by_cases hi : i < vs.length
    · rw [List.getElem?_append_left hi] at hz
      rw [List.getElem?_append_left (by rw [← h.len]; exact hi)] at hm
      have := h.at' i z m hz hm
      exact this.grown hg (rd_not_row this h.row)
    · rw [List.getElem?_append_right (by omega)] at hz
      rw [List.getElem?_append_right (by rw [← h.len]; omega), ← h.len] at hm
      have := (h2.at' _ z m hz hm).mono hC
      exact this.grown hg (rd_not_row this h.row)
  · by_cases hj : j < vs.length
    · rw [List.getElem?_append_left hj] at hy
      rw [List.getElem?_append_left (by omega)] at hz
      exact h.apart i j z y hij hz hy
    · rw [List.getElem?_append_right (by omega)] at hy
      by_cases hi : i < vs.length
      · rw [List.getElem?_append_left hi] at hz
        cases hq : z.ownBlock with
        | none => exact .inl rfl
        | some k =>
          right
          intro e
          obtain ⟨l, _, hr2⟩ := h2.rd hy
          have h3 := (hr2.lt k e.symm).1
          have h4 := ha.2 i z hz k hq
          omega
      · rw [List.getElem?_append_right (by omega)] at hz
        exact h2.apart _ _ z y (by omega) hz hy

set_option maxHeartbeats 1000000 in
theorem ltr_any : ∀ (k m : Nat) (w : World), k ≤ 4 → m ≤ 15 →
    Calls Try.prog 75 #[.int .i64 (k : Int), .int .i64 (m : Int)] w fun e w' => ∃ u vs, e = .returned u ∧ LLi w' w.heap.size u vs (ndr k m) ∧ Below w.heap.size w w'
  | 0, m, w, _, hm => by
    go_enter Try.func75, Try.ntmps75
    go_wp2
    go_ret
    exact ⟨_, [.slice (some ⟨w.heap.size, 0, none⟩) 0 0], rfl, by have h := LLi.one (rd_empty w) (by simp); rw [World.size_alloc] at h; exact h, (alloc_below w _).alloc (by simp) _⟩
  | k + 1, m, w, hk, hm => by
    have HI := Lib.hid (fun (x : Nat) (w' : World) (hx : x ≤ 15) => ltr_any k x w' (by omega) hx)
    have HPB := Lib.hid (show ∀ x, x ≤ 16 → (ndrTo k x).length ≤ 3876 from fun x hx => ndrTo_bd hk hx)
    have hne : ((((k + 1 : Nat) : Int)) == 0) = false := beq_no (by omega)
    have hc1 : ((k + 1 : Nat) : Int) - 1 = (k : Int) := by omega
    rw [ndr_succ]
    obtain ⟨K, hK⟩ : ∃ K : Int, K = ((k + 1 : Nat) : Int) := ⟨_, rfl⟩
    rw [← hK] at hne hc1
    rw [← hK]
    have hK1 : K ≤ 4 := by omega
    have hK0 : 1 ≤ K := by omega
    have HC1 := Lib.hid hc1
    clear hK hc1
    go_enter Try.func75, Try.ntmps75
    go_wp2
    go_loopw [5, 15] (fun o i wr => ∃ (x : Nat) (vs : List Value), x ≤ m + 1 ∧ i = .int .i64 (x : Int) ∧ LLi wr w.heap.size o vs (ndrTo k x) ∧ Below w.heap.size w wr) (fun _ i _ => m + 1 - (intOf i).toNat)
    case atStart => exact ⟨0, [], Nat.zero_le _, rfl, LLi.nil _ _, Below.refl _ _⟩
    case round =>
      obtain ⟨x, vs, hx, rfl, hv, hbl⟩ := hrel
      obtain ⟨wo, rfl⟩ : ∃ wo : World, wo = wr := ⟨_, rfl⟩
      have HV := Lib.hid hv
      have HB := Lib.hid hbl
      clear hv hbl
      by_cases hlt : x < m + 1
      · go_wp2_with fail
        rw [HC1.out]
        refine (HI.out x _ (by omega)).mono ?_
        rintro e w1 ⟨u, us, rfl, hu, hb1⟩
        have HU := Lib.hid hu
        have HV1 := Lib.hid (HV.out.keep hb1)
        have HU0 := Lib.hid HV.out.und
        have B1 := Lib.hid (Below.step HB.out HB.out.size hb1)
        have hnl := ndr_bd (k := k) (m := x) (by omega) (by omega)
        have HNA := Lib.hid (ndr_all k x)
        obtain ⟨N, hN⟩ : ∃ N, N = (ndr k x).length := ⟨_, rfl⟩
        rw [← hN] at hnl
        have HN := Lib.hid hN
        have HUL := Lib.hid (show us.length = N by rw [hN]; exact hu.len)
        obtain ⟨a, cap, rfl⟩ : ∃ a cap, u = .slice a N cap := by
          rcases hu.row.cases with ⟨rfl, h0⟩ | ⟨gv, cv, rfl⟩
          · rw [h0] at HUL; have := HUL.out; simp at this; subst this; exact ⟨_, _, rfl⟩
          · rw [HUL.out]; exact ⟨_, _, rfl⟩
        clear hu hb1 hN
        have HPX := Lib.hid (HPB.out x (by omega))
        have HPX1 := Lib.hid (HPB.out (x + 1) (by omega))
        have HPS := Lib.hid (ndrTo_succ k x)
        go_wp2
        go_loopw [5, 23] (fun o i wr => ∃ (j : Nat) (ws : List Value), j ≤ N ∧ i = .int .i64 (j : Int) ∧ LLi wr w.heap.size o ws (ndrTo k x ++ ((ndr k x).take j).map (fun l => (x : Int) :: l)) ∧ Below w.heap.size w wr ∧ LLi wr wo.heap.size (.slice a N cap) us (ndr k x) ∧ OutV wo.heap.size w1.heap.size o ∧ w1.heap.size ≤ wr.heap.size) (fun _ i _ => N - (intOf i).toNat)
        case atStart => exact ⟨0, vs, Nat.zero_le _, rfl, by rw [List.take_zero, List.map_nil, List.append_nil]; exact HV1.out, B1.out, HU.out, fun q hq => .inl (HU0.out.1 q hq), Nat.le_refl _⟩
        case round =>
          obtain ⟨j, ws, hj, rfl, hv, hbl, hu, hout, hsz1⟩ := hrel
          have HO := Lib.hid hout
          have HW := Lib.hid hv
          have HB2 := Lib.hid hbl
          have HU2 := Lib.hid hu
          clear hv hbl hu hout
          by_cases hjl : j < N
          · obtain ⟨z, hz⟩ : ∃ z, us[j]? = some z := ⟨us[j]'(by rw [HUL.out]; exact hjl), by simp⟩
            obtain ⟨l, hl, hrz⟩ := HU2.out.rd hz
            have HLL := Lib.hid (HNA.out l (List.mem_of_getElem? hl))
            have HTJ := Lib.hid (show ((ndr k x).take (j + 1)).map (fun l => (x : Int) :: l) = ((ndr k x).take j).map (fun l => (x : Int) :: l) ++ [(x : Int) :: l] by rw [List.take_add_one, hl]; simp)
            have HUa := Lib.hid HU2.out.row
            have hrow := HU2.out.row
            rcases hrow.cases with ⟨hn, h0⟩ | ⟨ga, ca, hn⟩
            · rw [h0] at hz; simp at hz
            rw [HUL.out] at hn
            simp only [Value.slice.injEq] at hn
            obtain ⟨rfl, _, rfl⟩ := hn
            have hcell : wr.cell? ⟨ga, j, none⟩ = some z := by
              obtain ⟨i1, i2⟩ := List.getElem?_eq_some_iff.1 hz
              rw [hrow.at.2.2.2.2.2.1 j i1, i2]
            have HGA := Lib.hid (show wo.heap.size ≤ ga ∧ ga < w1.heap.size from ⟨hrow.at.2.1, (HU.out.row.lt ga rfl).2⟩)
            have HSZ := Lib.hid (hrz.src)
            obtain ⟨az, cz, rfl⟩ := hrz.sl.len
            have HZ0 := Lib.hid (HW.out.und)
            have hk4 : l.length ≤ 4 := by rw [HLL.out]; omega
            have HWL := Lib.hid (show ws.length ≤ 3876 + 3876 by rw [HW.out.len, List.length_append, List.length_map, List.length_take]; have := HPX.out; omega)
            have HU3 := Lib.hid HU2.out
            clear hz hl hrz hrow
            go_wp2_with (first
              | (at_builtin; refine wpList_appS rfl (.tmp 29) (.tmp 30) rfl wr.heap.size _ _ [(x : Int)] l rfl rfl (Rd.litB wr wr.heap.size _ (Nat.le_refl _)) (HSZ.out.keep (alloc_below wr _)) (by simp; omega) (by simp) ?_; intro v1 w2 hr2 hg2 hb2; have R2 := Lib.hid (show Rd w2 wr.heap.size v1 ((x : Int) :: l) from hr2); have B2 := Lib.hid ((alloc_below wr (.cells #[.int .i64 (x : Int)] 3)).trans hb2); obtain ⟨a1, c1, hv1⟩ := R2.out.sl.len; subst hv1; clear hr2 hg2 hb2)
              | (at_builtin; refine wpList_appL rfl (.tmp 27) (.tmp 32) _ 33 (.slice none 0 0) 24 Try.underlying28 infoL (by omega) rfl rfl w.heap.size w.heap.size _ _ ws _ rfl rfl ((HW.out.keep B2.out).row.alloc _) (Rg.lit _ _ _ _ (Nat.le_trans HB2.out.size B2.out.size)) (by simp [Value.oneCell']) (by simp) (by have := HWL.out; simp; omega) (by have h1 := HB2.out.size; have h2 := B2.out.size; simp; omega) ?_; intro g3 c3 w3 hr3 hg3 hb3 hat3; have R3 := Lib.hid hr3; have G3 := Lib.hid hg3; have B3 := Lib.hid hb3; have A3 := Lib.hid hat3; clear hr3 hg3 hb3 hat3))
            have HW2 := Lib.hid (HW.out.keep B2.out)
            have HN1 := Lib.hid (HW2.out.snoc (R2.out.mono HB2.out.size) (LLi.far HZ0.out R2.out) R3.out G3.out)
            have HNL := Lib.hid (show (ndrTo k x ++ ((ndr k x).take j).map (fun l => (x : Int) :: l)) ++ [(x : Int) :: l] = ndrTo k x ++ ((ndr k x).take (j + 1)).map (fun l => (x : Int) :: l) by rw [HTJ.out, List.append_assoc])
            have HUk := Lib.hid ((HU3.out.keep B2.out).alloc (.cells #[.slice a1 ((x : Int) :: l).length c1] 33))
            have HWk := Lib.hid (HW2.out.alloc (.cells #[.slice a1 ((x : Int) :: l).length c1] 33))
            have HNE := Lib.hid (show (Value.slice (some ⟨ga, 0, none⟩) N cap).ownBlock = none ∨ (Value.slice (some ⟨ga, 0, none⟩) N cap).ownBlock ≠ u5.ownBlock from .inr (fun e => by
              have h1 := HO.out ga e.symm
              have h2 := HGA.out
              omega))
            go_roundw
            case rel =>
              refine ⟨j + 1, _, by omega, by go_num, by rw [← HNL.out]; exact HN1.out, ((Below.step HB2.out HB2.out.size B2.out).alloc (Nat.le_trans HB2.out.size B2.out.size) _).trans B3.out, HUk.out.grown G3.out HNE.out (fun i z hz => ?_), fun q hq => ?_, Nat.le_trans hsz1 (Nat.le_trans B2.out.size (Nat.le_trans (by simp) B3.out.size))⟩
              · obtain ⟨l', _, hr⟩ := HUk.out.rd hz
                exact rd_not_row hr HWk.out.row
              · simp only [Value.ownBlock, Option.some.injEq] at hq
                rcases A3.out with h | h
                · have h' : u5.ownBlock = some g3 := h
                  exact HO.out q (by rw [h', hq])
                · right
                  have h2 := B2.out.size
                  simp at h
                  omega
            case measure => simp [intOf]; omega
          · obtain rfl : j = N := by omega
            have HE := Lib.hid (show ndrTo k x ++ ((ndr k x).take j).map (fun l => (x : Int) :: l) = ndrTo k (x + 1) by rw [List.take_of_length_le (by rw [← HN.out]; exact Nat.le_refl _), HPS.out])
            go_wp2
            go_roundw
            case rel => exact ⟨x + 1, ws, by omega, by go_num, by rw [← HE.out]; exact HW.out, HB2.out⟩
            case measure => simp [intOf]; omega
      · obtain rfl : x = m + 1 := by omega
        go_wp2
        go_ret
        exact ⟨_, vs, rfl, HV.out, HB.out⟩

end Go.Proofs.Ytadjjmlneghklaa
