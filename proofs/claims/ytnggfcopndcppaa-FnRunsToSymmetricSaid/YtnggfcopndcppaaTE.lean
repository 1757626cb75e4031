/-
  Who may ask about digits added backwards: the model's and the program's tests; the program's places.
-/
import Derived.Test.YtnggfcopndcppaaTB
import Derived.Test.YtnggfcopndcppaaTC
import Derived.Test.YtnggfcopndcppaaPW
import Derived.BigRegion
import Derived.Deep.RegionHeld3
import Derived.Handy
namespace Go.Proofs.Ytnggfcopndcppaa
open Go.RowKit
set_option linter.unusedVariables false
set_option linter.unusedSimpArgs false
set_option maxRecDepth 100000

theorem okR_no_base {b : Int} {xs : List Int} (h : ¬ (2 ≤ b ∧ b ≤ 16)) : okR b xs = false := by unfold okR; rw [decide_eq_false h]; rfl
theorem okR_no_len {b : Int} {xs : List Int} (h : ¬ (1 ≤ xs.length ∧ xs.length ≤ 40)) : okR b xs = false := by
  unfold okR
  by_cases h1 : xs.length ≤ 40
  · have h2 : xs.length = 0 := by omega
    have h3 := List.eq_nil_of_length_eq_zero h2
    subst h3
    simp [areD]
  · rw [decide_eq_false h1]; simp
theorem okR_no_all {b : Int} {xs : List Int} (h : allIn 0 (b - 1) xs = false) : okR b xs = false := by unfold okR areD; rw [h]; simp
theorem okR_rest {b : Int} {xs : List Int} (h1 : 2 ≤ b ∧ b ≤ 16) (h2 : 1 ≤ xs.length ∧ xs.length ≤ 40) (h3 : allIn 0 (b - 1) xs = true) : okR b xs = (decide ((0:Int) < xs[0]'(by omega)) || decide (xs.length = 1)) := by
  have h4 := (allIn_iff _ _ _).1 h3 _ (List.getElem_mem (show 0 < xs.length by omega))
  unfold okR areD
  rw [decide_eq_true h1, decide_eq_true h2.2, h3, decide_eq_true (show xs.length ≠ 0 by omega)]
  cases xs with
  | nil => simp at h2
  | cons a t =>
    simp at h4
    simp only [Bool.true_and, Bool.and_true, List.headD_cons, List.getElem_cons_zero]
    by_cases h5 : 0 < a
    · have h6 : a ≠ 0 := by omega
      simp [h5, h6]
    · have h6 : a = 0 := by omega
      simp [h6]

theorem okR_areD {b : Int} {xs : List Int} (h1 : 2 ≤ b ∧ b ≤ 16) (h2 : xs.length ≤ 40) : okR b xs = areD b xs := by
  unfold okR; rw [decide_eq_true h1, decide_eq_true h2]; simp

theorem rvGood_any (v : Value) (xs : List Int) (b : Int) (B : Nat) (w : World) (h : Rd w B v xs) (hl : xs.length ≤ 1048576) :
    Calls Try.prog 45 #[v, .int .i64 b] w fun e w' => e = .returned (.bool (okR b xs)) ∧ w = w' := by
  have H := Lib.hid h
  obtain ⟨a, cap, rfl⟩ := h.sl.len
  clear h
  by_cases hb : 2 ≤ b ∧ b ≤ 16
  · have hB := Lib.hid (show decide (Bas b) = true from decide_eq_true (p := Bas b) hb)
    by_cases hn : 1 ≤ xs.length ∧ xs.length ≤ 40
    · by_cases ha : allIn 0 (b - 1) xs = true
      · have HO := Lib.hid (okR_rest hb hn ha)
        have HA := Lib.hid ha
        rcases H.out.cases with ⟨_, hx⟩ | ⟨g, cap', hv, _, _, _, _, hc, _⟩
        · rw [hx] at hn; simp at hn
        simp only [Value.slice.injEq, true_and] at hv
        obtain ⟨rfl, rfl⟩ := hv
        have hcell := hc 0 (by omega)
        obtain ⟨q, hq⟩ : ∃ q, q = xs[0]'(by omega) := ⟨_, rfl⟩
        rw [← hq] at hcell
        have HQ := Lib.hid hq
        clear hq ha hc
        obtain ⟨n1, n2⟩ := hn
        rw [HO.out, ← HQ.out]
        have hn1 : (1:Int) ≤ (xs.length : Int) := by omega
        have hn2 : (xs.length : Int) ≤ 40 := by omega
        by_cases hq0 : 0 < q
        · go_enter Try.func45, Try.ntmps45
          go_wp2_with (first
            | (go_at_call 93; refine (dgBase_any _ _).mono ?_; rw [hB.out]; rintro e w1 ⟨rfl, rfl⟩)
            | (go_at_call 82; refine (l1In_yes _ _ _ _ hn1 hn2).mono ?_; rintro e w1 ⟨rfl, rfl⟩)
            | (go_at_call 51; refine (l1All_any _ _ _ _ _ _ H.out (by omega)).mono ?_; rw [HA.out]; rintro e w1 ⟨rfl, rfl⟩))
          go_ret
          exact ⟨ret_bool (by simp [hq0]), rfl⟩
        · have hq1 : q ≤ 0 := by omega
          by_cases hl1 : xs.length = 1
          · have hle : ((xs.length : Int) == 1) = true := beq_yes (by omega)
            have HL1 := Lib.hid hl1
            clear hl1
            go_enter Try.func45, Try.ntmps45
            go_wp2_with (first
              | (go_at_call 93; refine (dgBase_any _ _).mono ?_; rw [hB.out]; rintro e w1 ⟨rfl, rfl⟩)
              | (go_at_call 82; refine (l1In_yes _ _ _ _ hn1 hn2).mono ?_; rintro e w1 ⟨rfl, rfl⟩)
              | (go_at_call 51; refine (l1All_any _ _ _ _ _ _ H.out (by omega)).mono ?_; rw [HA.out]; rintro e w1 ⟨rfl, rfl⟩))
            go_ret
            exact ⟨ret_bool (by simp [HL1.out]), rfl⟩
          · have hle : ((xs.length : Int) == 1) = false := beq_no (by omega)
            have HL1 := Lib.hid hl1
            clear hl1
            go_enter Try.func45, Try.ntmps45
            go_wp2_with (first
              | (go_at_call 93; refine (dgBase_any _ _).mono ?_; rw [hB.out]; rintro e w1 ⟨rfl, rfl⟩)
              | (go_at_call 82; refine (l1In_yes _ _ _ _ hn1 hn2).mono ?_; rintro e w1 ⟨rfl, rfl⟩)
              | (go_at_call 51; refine (l1All_any _ _ _ _ _ _ H.out (by omega)).mono ?_; rw [HA.out]; rintro e w1 ⟨rfl, rfl⟩))
            go_ret
            exact ⟨ret_bool (by rw [decide_eq_false HL1.out]; simp), rfl⟩
      · have ha' : allIn 0 (b - 1) xs = false := by simpa using ha
        have HO := Lib.hid (okR_no_all ha')
        have HA := Lib.hid ha'
        obtain ⟨n1, n2⟩ := hn
        have hn1 : (1:Int) ≤ (xs.length : Int) := by omega
        have hn2 : (xs.length : Int) ≤ 40 := by omega
        clear ha ha'
        rw [HO.out]
        go_enter Try.func45, Try.ntmps45
        go_wp2_with (first
          | (go_at_call 93; refine (dgBase_any _ _).mono ?_; rw [hB.out]; rintro e w1 ⟨rfl, rfl⟩)
          | (go_at_call 82; refine (l1In_yes _ _ _ _ hn1 hn2).mono ?_; rintro e w1 ⟨rfl, rfl⟩)
          | (go_at_call 51; refine (l1All_any _ _ _ _ _ _ H.out (by omega)).mono ?_; rw [HA.out]; rintro e w1 ⟨rfl, rfl⟩))
        go_ret
        exact ⟨rfl, rfl⟩
    · have HO := Lib.hid (okR_no_len (b := b) hn)
      have HN := Lib.hid (show (xs.length : Int) < 1 ∨ 40 < (xs.length : Int) by omega)
      clear hn
      rw [HO.out]
      go_enter Try.func45, Try.ntmps45
      go_wp2_with (first
        | (go_at_call 93; refine (dgBase_any _ _).mono ?_; rw [hB.out]; rintro e w1 ⟨rfl, rfl⟩)
        | (go_at_call 82; refine (l1In_no _ _ _ _ HN.out).mono ?_; rintro e w1 ⟨rfl, rfl⟩))
      go_ret
      exact ⟨rfl, rfl⟩
  · have hB := Lib.hid (show decide (Bas b) = false from decide_eq_false (p := Bas b) hb)
    have HO := Lib.hid (okR_no_base (xs := xs) hb)
    clear hb
    rw [HO.out]
    go_enter Try.func45, Try.ntmps45
    go_wp2_with (go_at_call 93; refine (dgBase_any _ _).mono ?_; rw [hB.out]; rintro e w1 ⟨rfl, rfl⟩)
    go_ret
    exact ⟨rfl, rfl⟩

theorem Below.keeps_cell {w w' : World} (h : Below w.heap.size w w') {a : Addr} {u : Value} (hc : w.cell? a = some u) : w'.cell? a = some u := by
  have hlt : a.block < w.heap.size := by
    by_cases hl : a.block < w.heap.size
    · exact hl
    · unfold World.cell? at hc
      simp [Array.getElem?_eq_none (Nat.le_of_not_lt hl)] at hc
  rw [h.cell (p := a) hlt]
  exact hc
theorem addr_add (g o j : Nat) : (⟨g, o, none⟩ : Addr).add j = ⟨g, o + j, none⟩ := by
  unfold Addr.add
  split <;> simp_all
theorem alloc_below (w : World) (o : Obj) : Below w.heap.size w (w.alloc o) := (Below.refl _ _).alloc (Nat.le_refl _) o

theorem clone_sh (g n cap : Nat) (xs : List Int) (w : World) (B : Nat) (h : Rd w B (.slice (some ⟨g, 0, none⟩) n cap) xs) (h1 : 1 ≤ xs.length) (hl : xs.length ≤ 2000000) :
    Calls Try.prog 91 #[.slice (some ⟨g, 0, none⟩) n cap] w fun e w' => ∃ g' cap', e = .returned (.slice (some ⟨g', 0, none⟩) xs.length cap') ∧ Rd w' w.heap.size (.slice (some ⟨g', 0, none⟩) xs.length cap') xs ∧ Below w.heap.size w w' := by
  refine (clone_any g n cap xs w B h hl).mono ?_
  rintro e w' ⟨u, rfl, hr, hb⟩
  rcases hr.cases with ⟨_, hx⟩ | ⟨g', cap', rfl, _⟩
  · rw [hx] at h1; simp at h1
  · exact ⟨g', cap', rfl, hr, hb⟩

/-- A number by its digits. -/
abbrev lng (u : Value) (b : Int) : Value := .agg #[u, .int .i64 b]

theorem loadVar_pair {T : TypeId} {d : TypeDesc} (hu : Try.prog.underlying T = some d) (hd : (match d with | .struct _ | .array _ _ => true | _ => false) = true) (hi : (Try.prog.info? T).map (·.size) = some 2)
    (w : World) (s off : Nat) (x0 x1 : Value) (h0 : w.cell? ⟨s, off, none⟩ = some x0) (h1 : w.cell? ⟨s, off + 1, none⟩ = some x1) : (loadVar T ⟨s, off, none⟩).run Try.prog w = .ok (.agg #[x0, x1]) w := by
  have hl : (loadCells ⟨s, off, none⟩ ([x0, x1] : List Value).length).run Try.prog w = .ok ([x0, x1] : List Value).toArray w :=
    run_loadCells_list (P := Try.prog) w ⟨s, off, none⟩ [x0, x1] (fun j v hv => by
      have hadd : (⟨s, off, none⟩ : Addr).add j = ⟨s, off + j, none⟩ := by unfold Addr.add; split <;> simp_all
      rw [hadd]
      match j, hv with
      | 0, hv => simp at hv; subst hv; exact h0
      | 1, hv => simp at hv; subst hv; exact h1
      | j + 2, hv => simp at hv)
  cases hq : Try.prog.info? T with
  | none => simp [hq] at hi
  | some i =>
    have hs : i.size = 2 := by simpa [hq] using hi
    have hagg : (isAgg T).run Try.prog w = .ok true w := by
      unfold isAgg
      rw [Sem.run_bind, run_underlying hu w]
      cases d <;> simp_all
    simp only [List.length_cons, List.length_nil, Nat.zero_add, Nat.reduceAdd] at hl
    simp [loadVar, Sem.run_bind, hagg, sizeOf, typeInfo, hq, hs, hl]

theorem infoLN : (Try.prog.info? 56).map (·.size) = some 2 := by kernel_rfl
theorem load_lng (w : World) (s off : Nat) (x0 x1 : Value) (h0 : w.cell? ⟨s, off, none⟩ = some x0) (h1 : w.cell? ⟨s, off + 1, none⟩ = some x1) : (loadVar 56 ⟨s, off, none⟩).run Try.prog w = .ok (.agg #[x0, x1]) w :=
  loadVar_pair Try.underlying56 rfl infoLN w s off x0 x1 h0 h1

theorem ret_pair {fn : Func} {p u : Tmp} (h : fn.results = #[.cell p 56, .tmp u]) (tmps : Array Value) (w : World) (s : Nat) (x0 x1 : Value)
    (hp : tmps.getD p undef = .pointer (some ⟨s, 0, none⟩)) (h0 : w.cell? ⟨s, 0, none⟩ = some x0) (h1 : w.cell? ⟨s, 1, none⟩ = some x1) :
    (results fn tmps).run Try.prog w = .ok (.tuple #[.agg #[x0, x1], tmps.getD u undef]) w := by
  rw [results_cell_tmp h, hp]
  simp [asAddr, load_lng w s 0 x0 x1 h0 h1, Result.andThen]

/-- Two cells that are written one behind the other. -/
theorem set_pair {w : World} {s : Nat} {y0 y1 x0 x1 : Value} (h0 : w.cell? ⟨s, 0, none⟩ = some y0) (h1 : w.cell? ⟨s, 1, none⟩ = some y1) :
    ((w.setCell ⟨s, 0, none⟩ x0).setCell ⟨s, 1, none⟩ x1).cell? ⟨s, 0, none⟩ = some x0 ∧ ((w.setCell ⟨s, 0, none⟩ x0).setCell ⟨s, 1, none⟩ x1).cell? ⟨s, 1, none⟩ = some x1 := by
  have hne : (⟨s, 0, none⟩ : Addr) ≠ ⟨s, 1, none⟩ := fun e => by simp at e
  constructor
  · rw [World.cell?_setCell_other _ _ _ _ (Ne.symm hne)]
    exact World.cell?_setCell_same _ _ _ h0
  · exact World.cell?_setCell_same _ _ _ ((World.cell?_setCell_other _ _ _ _ hne).trans h1)

theorem grown_setCell (w : World) (g j : Nat) (u : Value) : w.grownBy (w.setCell ⟨g, j, none⟩ u) (some g) :=
  ⟨rfl, rfl, rfl, by simp, fun k hk hne => by
    simp only [World.setCell, Array.getElem?_modify]
    rw [if_neg (fun e => hne (by rw [e]))]⟩
theorem longNumberOf_any (v : Value) (xs : List Int) (b : Int) (B : Nat) (w : World) (h : Rd w B v xs) (hl : xs.length ≤ 1048576) :
    Calls Try.prog 43 #[v, .int .i64 b] w fun e w' => Below w.heap.size w w' ∧ ((okR b xs = true ∧ ∃ g cap, e = .returned (.tuple #[lng (.slice (some ⟨g, 0, none⟩) xs.length cap) b, .bool true]) ∧ Rd w' w.heap.size (.slice (some ⟨g, 0, none⟩) xs.length cap) xs) ∨
      (okR b xs = false ∧ e = .returned (.tuple #[lng (.slice none 0 0) 0, .bool false]))) := by
  have H := Lib.hid h
  obtain ⟨a, cap, rfl⟩ := h.sl.len
  clear h
  have HAL := Lib.hid (alloc_below w (.cells #[.slice none 0 0, .int .i64 0] 56))
  have HC0 := Lib.hid (show (w.alloc (.cells #[.slice none 0 0, .int .i64 0] 56)).cell? ⟨w.heap.size, 0, none⟩ = some (.slice none 0 0) by simp [go_sem])
  have HC1 := Lib.hid (show (w.alloc (.cells #[.slice none 0 0, .int .i64 0] 56)).cell? ⟨w.heap.size, 1, none⟩ = some (.int .i64 0) by simp [go_sem])
  have HF := Lib.hid (show ∀ j, (w.alloc (.cells #[.slice none 0 0, .int .i64 0] 56)).frozen? ⟨w.heap.size, j, none⟩ = false from fun j => by simp [go_sem])
  by_cases hb : 2 ≤ b ∧ b ≤ 16
  · have hB := Lib.hid (show decide (Bas b) = true from decide_eq_true (p := Bas b) hb)
    by_cases hn : xs.length ≤ 40
    · have HO := Lib.hid (okR_areD hb hn)
      rw [HO.out]
      have hn4 : ¬ (40:Int) < (xs.length : Int) := by omega
      obtain ⟨b2, b16⟩ := hb
      by_cases ha : areD b xs = true
      · have HA := Lib.hid ha
        have h1 : 1 ≤ xs.length := by have := (okR_dg (b := b) (xs := xs) (by rw [HO.out]; exact ha)).l1; exact this
        rcases H.out.cases with ⟨_, hx⟩ | ⟨g, cap', hv, _, _, _, _, _, _⟩
        · rw [hx] at h1; simp at h1
        simp only [Value.slice.injEq, true_and] at hv
        obtain ⟨rfl, rfl⟩ := hv
        clear ha
        rw [HA.out]
        go_enter Try.func43, Try.ntmps43
        go_wp2_with (first
          | (go_at_call 89; refine (isBase_any _ _).mono ?_; rw [hB.out]; rintro e w1 ⟨rfl, rfl⟩)
          | (go_at_call 90; refine (areDigits_any _ _ _ _ _ (H.out.keep HAL.out) b2 b16 (by omega)).mono ?_; rw [HA.out]; rintro e w1 ⟨rfl, rfl⟩)
          | (go_at_call 91; (refine (clone_sh _ _ _ _ _ _ (H.out.keep HAL.out) h1 (by omega)).mono ?_; rintro e w1 ⟨g1, cap1, rfl, hr, hb1⟩; have R1 := Lib.hid hr; have B1 := Lib.hid hb1; have c0 := Below.keeps_cell hb1 HC0.out; have c1 := Below.keeps_cell hb1 HC1.out; have f0 := (below_cells hb1).2 w.heap.size 0 (by simp); have f1 := (below_cells hb1).2 w.heap.size 1 (by simp); rw [HF.out] at f0 f1; clear hr hb1)))
        have hsp := set_pair (x0 := .slice (some ⟨g1, 0, none⟩) xs.length cap1) (x1 := .int .i64 b) c0 c1
        have hgr : ∀ u q, Below w.heap.size w ((w1.setCell ⟨w.heap.size, 0, none⟩ u).setCell ⟨w.heap.size, 1, none⟩ q) := fun u q => (((Below.step HAL.out HAL.out.size B1.out)).setCell (Nat.le_refl _) _).setCell (Nat.le_refl _) _
        refine bodyPost_ret (ret_pair rfl _ _ w.heap.size _ _ rfl hsp.1 hsp.2) rfl ⟨hgr _ _, .inl ⟨trivial, g1, cap1, rfl, ?_⟩⟩
        have hne : (Value.slice (some ⟨g1, 0, none⟩) xs.length cap1).ownBlock = none ∨ (Value.slice (some ⟨g1, 0, none⟩) xs.length cap1).ownBlock ≠ some w.heap.size := .inr (fun e => by
          have := (R1.out.lt g1 rfl).1
          simp [Value.ownBlock] at e
          rw [World.size_alloc] at this
          omega)
        exact ((R1.out.grown (grown_setCell _ _ _ _) hne).grown (grown_setCell _ _ _ _) hne).mono (by rw [World.size_alloc]; omega)
      · have ha' : areD b xs = false := by simpa using ha
        have HA := Lib.hid ha'
        clear ha ha'
        rw [HA.out]
        go_enter Try.func43, Try.ntmps43
        go_wp2_with (first
          | (go_at_call 89; refine (isBase_any _ _).mono ?_; rw [hB.out]; rintro e w1 ⟨rfl, rfl⟩)
          | (go_at_call 90; refine (areDigits_any _ _ _ _ _ (H.out.keep HAL.out) b2 b16 (by omega)).mono ?_; rw [HA.out]; rintro e w1 ⟨rfl, rfl⟩))
        go_returns
        exact ⟨HAL.out, .inr ⟨trivial, rfl⟩⟩
    · have HO := Lib.hid (okR_no_len (b := b) (xs := xs) (by omega))
      have hn4 : (40:Int) < (xs.length : Int) := by omega
      rw [HO.out]
      go_enter Try.func43, Try.ntmps43
      go_wp2_with (go_at_call 89; refine (isBase_any _ _).mono ?_; rw [hB.out]; rintro e w1 ⟨rfl, rfl⟩)
      go_returns
      exact ⟨HAL.out, .inr ⟨trivial, rfl⟩⟩
  · have hB := Lib.hid (show decide (Bas b) = false from decide_eq_false (p := Bas b) hb)
    have HO := Lib.hid (okR_no_base (xs := xs) hb)
    clear hb
    rw [HO.out]
    go_enter Try.func43, Try.ntmps43
    go_wp2_with (go_at_call 89; refine (isBase_any _ _).mono ?_; rw [hB.out]; rintro e w1 ⟨rfl, rfl⟩)
    go_returns
    exact ⟨HAL.out, .inr ⟨trivial, rfl⟩⟩

end Go.Proofs.Ytnggfcopndcppaa
