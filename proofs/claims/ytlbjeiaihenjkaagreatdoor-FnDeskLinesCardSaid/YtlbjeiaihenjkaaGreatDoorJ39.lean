/-
  Joint text of CX: what each proves stands ahead of it.
-/
import Derived.Test.YtlbjeiaihenjkaaGreatDoorJ37
import Derived.Test.YtlbjeiaihenjkaaGreatDoorJ38
import Derived.Test.YtlbjeiaihenjkaaGreatDoorJ35
/- from CX: The model's reading of a line.  -/
namespace Go.Proofs.YtlbjeiaihenjkaaGreatDoor
open Go.RowKit
set_option linter.unusedVariables false
set_option linter.unusedSimpArgs false
set_option maxRecDepth 100000

/-- A line as a value. -/
abbrev lnV (n b m : Int) (t : Tx) (nv : Value) : Value := .agg #[.int .i64 n, .int .i64 b, .int .i64 m, str t, nv]
theorem infoLnC : (Tryz.prog.info? 86).map (·.size) = some 5 := by kernel_rfl
theorem load_ln (w : World) (s : Nat) (x0 x1 x2 x3 x4 : Value) (h0 : w.cell? ⟨s, 0, none⟩ = some x0) (h1 : w.cell? ⟨s, 1, none⟩ = some x1) (h2 : w.cell? ⟨s, 2, none⟩ = some x2) (h3 : w.cell? ⟨s, 3, none⟩ = some x3) (h4 : w.cell? ⟨s, 4, none⟩ = some x4) :
    (loadVar 86 ⟨s, 0, none⟩).run Tryz.prog w = .ok (.agg #[x0, x1, x2, x3, x4]) w :=
  load_struct Tryz.underlying86 rfl [x0, x1, x2, x3, x4] infoLnC w s (fun j v hv => by
    match j, hv with
    | 0, hv => simp at hv; subst hv; exact h0
    | 1, hv => simp at hv; subst hv; exact h1
    | 2, hv => simp at hv; subst hv; exact h2
    | 3, hv => simp at hv; subst hv; exact h3
    | 4, hv => simp at hv; subst hv; exact h4
    | j + 5, hv => simp at hv)

/-- A block of five cells that may be written. -/
structure Box5 (w : World) (s : Nat) : Prop where
  cell : ∀ j, j < 5 → ∃ y, w.cell? ⟨s, j, none⟩ = some y
  free : ∀ j, w.frozen? ⟨s, j, none⟩ = false
abbrev set5 (w : World) (s : Nat) (x0 x1 x2 x3 x4 : Value) : World := ((((w.setCell ⟨s, 0, none⟩ x0).setCell ⟨s, 1, none⟩ x1).setCell ⟨s, 2, none⟩ x2).setCell ⟨s, 3, none⟩ x3).setCell ⟨s, 4, none⟩ x4
theorem set5_cells {w : World} {s : Nat} (h : Box5 w s) (x0 x1 x2 x3 x4 : Value) :
    (set5 w s x0 x1 x2 x3 x4).cell? ⟨s, 0, none⟩ = some x0 ∧ (set5 w s x0 x1 x2 x3 x4).cell? ⟨s, 1, none⟩ = some x1 ∧ (set5 w s x0 x1 x2 x3 x4).cell? ⟨s, 2, none⟩ = some x2 ∧ (set5 w s x0 x1 x2 x3 x4).cell? ⟨s, 3, none⟩ = some x3 ∧ (set5 w s x0 x1 x2 x3 x4).cell? ⟨s, 4, none⟩ = some x4 := by
  obtain ⟨y0, h0⟩ := h.cell 0 (by omega)
  obtain ⟨y1, h1⟩ := h.cell 1 (by omega)
  obtain ⟨y2, h2⟩ := h.cell 2 (by omega)
  obtain ⟨y3, h3⟩ := h.cell 3 (by omega)
  obtain ⟨y4, h4⟩ := h.cell 4 (by omega)
  have ne : ∀ (i j : Nat), i ≠ j → (⟨s, i, none⟩ : Addr) ≠ ⟨s, j, none⟩ := fun i j hij e => hij (by simp at e)
  have o := World.cell?_setCell_other
  refine ⟨?_, ?_, ?_, ?_, ?_⟩
  · rw [o _ _ _ _ (ne 4 0 (by omega)), o _ _ _ _ (ne 3 0 (by omega)), o _ _ _ _ (ne 2 0 (by omega)), o _ _ _ _ (ne 1 0 (by omega))]
    exact World.cell?_setCell_same _ _ _ h0
  · rw [o _ _ _ _ (ne 4 1 (by omega)), o _ _ _ _ (ne 3 1 (by omega)), o _ _ _ _ (ne 2 1 (by omega))]
    exact World.cell?_setCell_same _ _ _ ((o _ _ _ _ (ne 0 1 (by omega))).trans h1)
  · rw [o _ _ _ _ (ne 4 2 (by omega)), o _ _ _ _ (ne 3 2 (by omega))]
    exact World.cell?_setCell_same _ _ _ ((o _ _ _ _ (ne 1 2 (by omega))).trans ((o _ _ _ _ (ne 0 2 (by omega))).trans h2))
  · rw [o _ _ _ _ (ne 4 3 (by omega))]
    exact World.cell?_setCell_same _ _ _ ((o _ _ _ _ (ne 2 3 (by omega))).trans ((o _ _ _ _ (ne 1 3 (by omega))).trans ((o _ _ _ _ (ne 0 3 (by omega))).trans h3)))
  · exact World.cell?_setCell_same _ _ _ ((o _ _ _ _ (ne 3 4 (by omega))).trans ((o _ _ _ _ (ne 2 4 (by omega))).trans ((o _ _ _ _ (ne 1 4 (by omega))).trans ((o _ _ _ _ (ne 0 4 (by omega))).trans h4))))
theorem set5_below {B : Nat} {w0 w : World} {s : Nat} (hb : Below B w0 w) (hs : B ≤ s) (x0 x1 x2 x3 x4 : Value) : Below B w0 (set5 w s x0 x1 x2 x3 x4) :=
  ((((hb.setCell (p := ⟨s, 0, none⟩) hs _).setCell (p := ⟨s, 1, none⟩) hs _).setCell (p := ⟨s, 2, none⟩) hs _).setCell (p := ⟨s, 3, none⟩) hs _).setCell (p := ⟨s, 4, none⟩) hs _

abbrev W0 (w : World) (n b : Int) : World := ((w.alloc (.cells #[.int .i64 n, .int .i64 b] 24)).alloc (.cells #[.int .i64 0, .int .i64 0, .int .i64 0, .string ⟨#[]⟩, .slice none 0 0] 86)).alloc (.cells #[.int .i64 n, .int .i64 b, .int .i64 0, .string ⟨#[]⟩, .slice none 0 0] 86)
/-- The function's own memory: the desk in block A, the place of its result behind it, then the line. -/
structure Cr (w : World) (A : Nat) (n b : Int) : Prop where
  d1 : w.cell? ⟨A, 1, none⟩ = some (.int .i64 b)
  box : Box5 w (A + 1)
  ln : Ln w (A + 1 + 1) n b 0 [] (.slice none 0 0)
theorem cr_facts (w : World) (n b : Int) (w' : World) (hb : Below (w.heap.size + 3) (W0 w n b) w') : Cr w' w.heap.size n b ∧ Below w.heap.size w w' := by
  have c := fun (s j : Nat) (hs : s < w.heap.size + 3) => hb.cell (p := ⟨s, j, none⟩) hs
  have f := fun (s j : Nat) (hs : s < w.heap.size + 3) => hb.frozen (p := ⟨s, j, none⟩) hs
  have hsz := hb.size
  refine ⟨⟨(c _ 1 (by omega)).trans (by simp [go_sem]), ⟨fun j hj => ?_, fun j => (f _ j (by omega)).trans (by simp [go_sem])⟩, ⟨by simp at hsz; omega, (c _ 0 (by omega)).trans (by simp [go_sem]), (c _ 1 (by omega)).trans (by simp [go_sem]), (c _ 2 (by omega)).trans (by simp [go_sem]), (c _ 3 (by omega)).trans (by simp [go_sem]), (c _ 4 (by omega)).trans (by simp [go_sem]), fun j => (f _ j (by omega)).trans (by simp [go_sem])⟩⟩, ?_⟩
  · rw [c _ j (by omega)]
    match j, hj with
    | 0, _ => exact ⟨.int .i64 0, by simp [go_sem]⟩
    | 1, _ => exact ⟨.int .i64 0, by simp [go_sem]⟩
    | 2, _ => exact ⟨.int .i64 0, by simp [go_sem]⟩
    | 3, _ => exact ⟨.string ⟨#[]⟩, by simp [go_sem]⟩
    | 4, _ => exact ⟨.slice none 0 0, by simp [go_sem]⟩
    | j + 5, h => omega
  · exact ((two_below w _ _).trans ((alloc_belowD _ _).mono (by simp; omega))).trans (hb.mono (by omega))

theorem ret_mid5 {fn : Func} {p u t : Tmp} (h : fn.results = #[.tmp u, .cell p 86, .tmp t]) (tmps : Array Value) (w : World) (s : Nat) (x0 x1 x2 x3 x4 : Value) (hp : tmps.getD p undef = .pointer (some ⟨s, 0, none⟩)) (hB : Box5 w s) :
    (results fn tmps).run Tryz.prog ((set5 w s x0 x1 x2 x3 x4).drew) = .ok (.tuple #[tmps.getD u undef, .agg #[x0, x1, x2, x3, x4], tmps.getD t undef]) ((set5 w s x0 x1 x2 x3 x4).drew) := by
  obtain ⟨h0, h1, h2, h3, h4⟩ := set5_cells hB x0 x1 x2 x3 x4
  have key : ∀ W : World, W.cell? ⟨s, 0, none⟩ = some x0 → W.cell? ⟨s, 1, none⟩ = some x1 → W.cell? ⟨s, 2, none⟩ = some x2 → W.cell? ⟨s, 3, none⟩ = some x3 → W.cell? ⟨s, 4, none⟩ = some x4 → (results fn tmps).run Tryz.prog W.drew = .ok (.tuple #[tmps.getD u undef, .agg #[x0, x1, x2, x3, x4], tmps.getD t undef]) W.drew := fun W h0 h1 h2 h3 h4 =>
    results_mid h tmps W.drew s _ hp (load_ln W.drew s x0 x1 x2 x3 x4 h0 h1 h2 h3 h4)
  exact key _ h0 h1 h2 h3 h4
theorem Box5.keep {w w' : World} {s B : Nat} (h : Box5 w s) (hb : Below B w w') (hs : s < B) : Box5 w' s :=
  ⟨fun j hj => by obtain ⟨y, hy⟩ := h.cell j hj; exact ⟨y, (hb.cell (p := ⟨s, j, none⟩) hs).trans hy⟩, fun j => (hb.frozen (p := ⟨s, j, none⟩) hs).trans (h.free j)⟩

theorem rd_someC {w : World} {B : Nat} {v : Value} {k : Int} (h : Rd w B v [k]) : ∃ p cp, v = .slice (some ⟨p, 0, none⟩) 1 cp ∧ w.cell? ⟨p, 0, none⟩ = some (.int .i64 k) ∧ B ≤ p ∧ p < w.heap.size := by
  rcases h.cases with ⟨_, hx⟩ | ⟨g, cap, hu, h1, h2, _, _, hc, _⟩
  · cases hx
  · exact ⟨g, cap, hu, hc 0 (by simp), h1, h2⟩

theorem n_cell {W : World} {p s B z : Nat} {u : Value} {x0 x1 x2 x3 x4 : Value} (h : B ≤ p ∧ p < z) (hs : s + 1 < B) (hc : W.cell? ⟨p, 0, none⟩ = some u) : ((set5 W s x0 x1 x2 x3 x4).drew).cell? ⟨p, 0, none⟩ = some u := by
  have hne : ∀ j, (⟨s, j, none⟩ : Addr) ≠ ⟨p, 0, none⟩ := fun j e => by injection e with h1 _ _; omega
  have o := World.cell?_setCell_other
  have key : ∀ V : World, V.cell? ⟨p, 0, none⟩ = some u → V.drew.cell? ⟨p, 0, none⟩ = some u := fun V h => h
  refine key _ ?_
  rw [o _ _ _ _ (hne 4), o _ _ _ _ (hne 3), o _ _ _ _ (hne 2), o _ _ _ _ (hne 1), o _ _ _ _ (hne 0)]
  exact hc

set_option maxHeartbeats 4000000 in
theorem cr_zero (n b : Int) (s x : Tx) (hs : s.length ≤ 1000000) (hw : spl 32 s = [x]) (hsh : shp x = []) (w : World) :
    Calls Tryz.prog 54 #[dsk n b, str s] w fun e w' => e = .returned (.tuple #[str x, lnV n b 0 [] (.slice none 0 0), .bool true]) ∧ Below w.heap.size w w' := by
  have HS := Lib.hid (fun W => l1Split_any s 32 32 rfl hs W)
  rw [hw] at HS
  have HH := Lib.hid (fun W => coShape_any x W)
  rw [hsh] at HH
  have CF := Lib.hid (cr_facts w n b)
  clear hw hs hsh
  go_enter Tryz.func54, Tryz.ntmps54
  go_wp2_with fail
  refine (HS.out _).mono ?_
  rintro e w1 ⟨g, cap, rfl, hr, hb⟩
  have hcr := CF.out w1 (hb.mono (by simp))
  have HC := Lib.hid hcr.1
  have HB1 := Lib.hid hcr.2
  have k0 : w1.cell? ⟨g, 0, none⟩ = some (str x) := hr.at.2.2.2.2.2.1 0 (by simp)
  have hcap : 1 ≤ cap := hr.at.2.2.2.1
  have d1 := HC.out.d1
  have l0 := HC.out.ln.c0
  have l1 := HC.out.ln.c1
  have l2 := HC.out.ln.c2
  have l3 := HC.out.ln.c3
  have l4 := HC.out.ln.c4
  have lf := HC.out.ln.free
  obtain ⟨y0, e0⟩ := HC.out.box.cell 0 (by omega)
  obtain ⟨y1, e1⟩ := HC.out.box.cell 1 (by omega)
  obtain ⟨y2, e2⟩ := HC.out.box.cell 2 (by omega)
  obtain ⟨y3, e3⟩ := HC.out.box.cell 3 (by omega)
  obtain ⟨y4, e4⟩ := HC.out.box.cell 4 (by omega)
  have ef := HC.out.box.free
  clear hr hb hcr
  go_wp2_with (go_at_call 85; refine (HH.out _).mono ?_; rintro e w2 ⟨rfl, rfl⟩)
  all_goals
    refine wp_loop_rounds 1 ?_
    rw [rounds_succ]
    go_wp2
    go_region
    all_goals
      go_wp2
      refine bodyPost_ret (ret_mid5 rfl _ _ (w.heap.size + 1) _ _ _ _ _ rfl HC.out.box) rfl ?_
      exact ⟨rfl, (set5_below HB1.out (by omega) _ _ _ _ _).drew⟩
set_option maxHeartbeats 4000000 in
theorem cr_len (n b : Int) (s x : Tx) (hs : s.length ≤ 1000000) (ws : List Tx) (hw : spl 32 s = x :: ws) (hsh : (shp x).length ≠ ws.length) (w : World) :
    Calls Tryz.prog 54 #[dsk n b, str s] w fun e w' => e = .returned (.tuple #[str [], lnV n b 0 [] (.slice none 0 0), .bool false]) ∧ Below w.heap.size w w' := by
  have HS := Lib.hid (fun W => l1Split_any s 32 32 rfl hs W)
  rw [hw] at HS
  have HH := Lib.hid (fun W => coShape_any x W)
  have hl : ((((shp x).length : Int)) != (((ws.length + 1 : Nat) : Int)) - 1) = true := bne_yes (by omega)
  obtain ⟨sh, hsh2⟩ : ∃ sh, sh = shp x := ⟨_, rfl⟩
  rw [← hsh2] at HH hl
  obtain ⟨L, hL⟩ : ∃ L, L = ws.length + 1 := ⟨_, rfl⟩
  rw [← hL] at hl
  have hL1 : 1 ≤ L := by omega
  have hLb : L ≤ 1000001 := by
    have h1 := spA_len 32 s []
    have h2 : (spA 32 [] s).length = ws.length + 1 := by rw [show spA 32 [] s = x :: ws from hw]; rfl
    have h3 := List.count_le_length (a := (32 : UInt8)) (l := s)
    omega
  have HS' := Lib.hid (show ∀ W, Calls Tryz.prog 34 #[str s, .int .u8 32] W fun e w' => ∃ g cap, e = .returned (.slice (some ⟨g, 0, none⟩) L cap) ∧ Rg 9 w' W.heap.size (.slice (some ⟨g, 0, none⟩) L cap) ((x :: ws).map str) ∧ Below W.heap.size W w' by rw [hL]; exact HS.out)
  have CF := Lib.hid (cr_facts w n b)
  clear hw hs hsh hsh2 HS
  go_enter Tryz.func54, Tryz.ntmps54
  go_wp2_with fail
  refine (HS'.out _).mono ?_
  rintro e w1 ⟨g, cap, rfl, hr, hb⟩
  have hcr := CF.out w1 (hb.mono (by simp))
  have HC := Lib.hid hcr.1
  have HB1 := Lib.hid hcr.2
  have k0 : w1.cell? ⟨g, 0, none⟩ = some (str x) := hr.at.2.2.2.2.2.1 0 (by simp)
  have HL := Lib.hid hL
  clear hL
  have d1 := HC.out.d1
  have l0 := HC.out.ln.c0
  have l1 := HC.out.ln.c1
  have l2 := HC.out.ln.c2
  have l3 := HC.out.ln.c3
  have l4 := HC.out.ln.c4
  have lf := HC.out.ln.free
  obtain ⟨y0, e0⟩ := HC.out.box.cell 0 (by omega)
  obtain ⟨y1, e1⟩ := HC.out.box.cell 1 (by omega)
  obtain ⟨y2, e2⟩ := HC.out.box.cell 2 (by omega)
  obtain ⟨y3, e3⟩ := HC.out.box.cell 3 (by omega)
  obtain ⟨y4, e4⟩ := HC.out.box.cell 4 (by omega)
  have ef := HC.out.box.free
  clear hr hb hcr
  go_wp2_with (go_at_call 85; refine (HH.out _).mono ?_; rintro e w2 ⟨rfl, rfl⟩)
  all_goals
    first | go_region | (go_wp2; go_region)
    all_goals
      go_wp2
      refine bodyPost_ret (ret_mid5 rfl _ _ (w.heap.size + 1) _ _ _ _ _ rfl HC.out.box) rfl ?_
      exact ⟨rfl, (set5_below HB1.out (by omega) _ _ _ _ _).drew⟩
set_option maxHeartbeats 4000000 in
theorem cr_q (n b : Int) (s x y : Tx) (hs : s.length ≤ 1000000) (hw : spl 32 s = [x, y]) (hsh : shp x = [63]) (w : World) :
    Calls Tryz.prog 54 #[dsk n b, str s] w fun e w' => e = .returned (.tuple #[str [], lnV n b 0 [] (.slice none 0 0), .bool false]) ∧ Below w.heap.size w w' := by
  have HS := Lib.hid (fun W => l1Split_any s 32 32 rfl hs W)
  rw [hw] at HS
  have HH := Lib.hid (fun W => coShape_any x W)
  rw [hsh] at HH
  have hat := fun W => at_run [63] 0 (by simp) W
  have hat' : ∀ W : World, (Instr.index 9 (str [63]) (.int .i64 0)).run Tryz.prog W = .ok (.int .u8 63) W := hat
  clear hat
  have CF := Lib.hid (cr_facts w n b)
  clear hw hs hsh
  go_enter Tryz.func54, Tryz.ntmps54
  go_wp2_with fail
  refine (HS.out _).mono ?_
  rintro e w1 ⟨g, cap, rfl, hr, hb⟩
  have hcr := CF.out w1 (hb.mono (by simp))
  have HC := Lib.hid hcr.1
  have HB1 := Lib.hid hcr.2
  have k0 : w1.cell? ⟨g, 0, none⟩ = some (str x) := hr.at.2.2.2.2.2.1 0 (by simp)
  have k1 : w1.cell? ⟨g, 1, none⟩ = some (str y) := hr.at.2.2.2.2.2.1 1 (by simp)
  have hcap : 2 ≤ cap := hr.at.2.2.2.1
  have HG := Lib.hid (show g < w1.heap.size from hr.at.2.2.1)
  have d1 := HC.out.d1
  have l0 := HC.out.ln.c0
  have l1 := HC.out.ln.c1
  have l2 := HC.out.ln.c2
  have l3 := HC.out.ln.c3
  have l4 := HC.out.ln.c4
  have lf := HC.out.ln.free
  obtain ⟨y0, e0⟩ := HC.out.box.cell 0 (by omega)
  obtain ⟨y1, e1⟩ := HC.out.box.cell 1 (by omega)
  obtain ⟨y2, e2⟩ := HC.out.box.cell 2 (by omega)
  obtain ⟨y3, e3⟩ := HC.out.box.cell 3 (by omega)
  obtain ⟨y4, e4⟩ := HC.out.box.cell 4 (by omega)
  have ef := HC.out.box.free
  clear hr hb hcr
  go_wp2_with (go_at_call 85; refine (HH.out _).mono ?_; rintro e w2 ⟨rfl, rfl⟩)
  all_goals
    refine wp_loop_rounds 2 ?_
    rw [rounds_succ]
    go_wp2
    go_region
    all_goals
      go_wp2
      refine bodyPost_ret (ret_mid5 rfl _ _ (w.heap.size + 1) _ _ _ _ _ rfl HC.out.box) rfl ?_
      exact ⟨rfl, (set5_below HB1.out (by omega) _ _ _ _ _).drew⟩
set_option maxHeartbeats 4000000 in
theorem cr_t_yes (n b m : Int) (s x y : Tx) (hs : s.length ≤ 1000000) (hw : spl 32 s = [x, y]) (hsh : shp x = [116]) (hy : y.length ≤ 1000000) (hp : RParse b y = some m) (w : World) :
    Calls Tryz.prog 54 #[dsk n b, str s] w fun e w' => e = .returned (.tuple #[str x, lnV n b m [] (.slice none 0 0), .bool true]) ∧ Below w.heap.size w w' := by
  have HS := Lib.hid (fun W => l1Split_any s 32 32 rfl hs W)
  rw [hw] at HS
  have HH := Lib.hid (fun W => coShape_any x W)
  rw [hsh] at HH
  have HP := Lib.hid (fun W => spec_ParseNumber ⟨y.toArray⟩ b W (by rw [ba_sz]; omega))
  rw [ba_of, hp] at HP
  have hat := fun W => at_run [116] 0 (by simp) W
  have hat' : ∀ W : World, (Instr.index 9 (str [116]) (.int .i64 0)).run Tryz.prog W = .ok (.int .u8 116) W := hat
  clear hat
  have CF := Lib.hid (cr_facts w n b)
  clear hw hs hsh hp hy
  go_enter Tryz.func54, Tryz.ntmps54
  go_wp2_with fail
  refine (HS.out _).mono ?_
  rintro e w1 ⟨g, cap, rfl, hr, hb⟩
  have hcr := CF.out w1 (hb.mono (by simp))
  have HC := Lib.hid hcr.1
  have HB1 := Lib.hid hcr.2
  have k0 : w1.cell? ⟨g, 0, none⟩ = some (str x) := hr.at.2.2.2.2.2.1 0 (by simp)
  have k1 : w1.cell? ⟨g, 1, none⟩ = some (str y) := hr.at.2.2.2.2.2.1 1 (by simp)
  have hcap : 2 ≤ cap := hr.at.2.2.2.1
  have HG := Lib.hid (show g < w1.heap.size from hr.at.2.2.1)
  have d1 := HC.out.d1
  have l0 := HC.out.ln.c0
  have l1 := HC.out.ln.c1
  have l2 := HC.out.ln.c2
  have l3 := HC.out.ln.c3
  have l4 := HC.out.ln.c4
  have lf := HC.out.ln.free
  obtain ⟨y0, e0⟩ := HC.out.box.cell 0 (by omega)
  obtain ⟨y1, e1⟩ := HC.out.box.cell 1 (by omega)
  obtain ⟨y2, e2⟩ := HC.out.box.cell 2 (by omega)
  obtain ⟨y3, e3⟩ := HC.out.box.cell 3 (by omega)
  obtain ⟨y4, e4⟩ := HC.out.box.cell 4 (by omega)
  have ef := HC.out.box.free
  clear hr hb hcr
  go_wp2_with (go_at_call 85; refine (HH.out _).mono ?_; rintro e w2 ⟨rfl, rfl⟩)
  all_goals
    refine wp_loop_rounds 2 ?_
    rw [rounds_succ]
    go_wp2_with fail
    refine (HP.out _).mono ?_
    rintro e w3 ⟨rfl, hb⟩
    have HLN := Lib.hid (HC.out.ln.keep hb)
    have HBX := Lib.hid (HC.out.box.keep hb (by have := HC.out.ln.lt; omega))
    have HB3 := Lib.hid (HB1.out.trans (hb.mono HB1.out.size))
    have K0 := (hb.cell (p := ⟨g, 0, none⟩) HG.out).trans k0
    clear hb k0 k1 d1 l0 l1 l2 l3 l4 lf e0 e1 e2 e3 e4 ef
    have l0 := HLN.out.c0
    have l1 := HLN.out.c1
    have l2 := HLN.out.c2
    have l3 := HLN.out.c3
    have l4 := HLN.out.c4
    have lf := HLN.out.free
    obtain ⟨z0, e0⟩ := HBX.out.cell 0 (by omega)
    obtain ⟨z1, e1⟩ := HBX.out.cell 1 (by omega)
    obtain ⟨z2, e2⟩ := HBX.out.cell 2 (by omega)
    obtain ⟨z3, e3⟩ := HBX.out.cell 3 (by omega)
    obtain ⟨z4, e4⟩ := HBX.out.cell 4 (by omega)
    have ef := HBX.out.free
    have HB4 := Lib.hid (HB3.out.setCell (p := ⟨w.heap.size + 1 + 1, 2, none⟩) (by show w.heap.size ≤ w.heap.size + 1 + 1; omega) (.int .i64 m))
    have HBX4 := Lib.hid (show Box5 (w3.setCell ⟨w.heap.size + 1 + 1, 2, none⟩ (.int .i64 m)) (w.heap.size + 1) from HBX.out.keep ((Below.refl (w.heap.size + 1 + 1) w3).setCell (p := ⟨w.heap.size + 1 + 1, 2, none⟩) (Nat.le_refl _) _) (Nat.lt_succ_self _))
    go_wp2
    rw [rounds_succ]
    go_wp2
    go_region
    all_goals
      go_wp2
      refine bodyPost_ret (ret_mid5 rfl _ _ (w.heap.size + 1) _ _ _ _ _ rfl HBX4.out) rfl ?_
      exact ⟨rfl, (set5_below HB4.out (by omega) _ _ _ _ _).drew⟩
set_option maxHeartbeats 4000000 in
theorem cr_t_no (n b : Int) (s x y : Tx) (hs : s.length ≤ 1000000) (hw : spl 32 s = [x, y]) (hsh : shp x = [116]) (hy : y.length ≤ 1000000) (hp : RParse b y = none) (w : World) :
    Calls Tryz.prog 54 #[dsk n b, str s] w fun e w' => e = .returned (.tuple #[str [], lnV n b 0 [] (.slice none 0 0), .bool false]) ∧ Below w.heap.size w w' := by
  have HS := Lib.hid (fun W => l1Split_any s 32 32 rfl hs W)
  rw [hw] at HS
  have HH := Lib.hid (fun W => coShape_any x W)
  rw [hsh] at HH
  have HP := Lib.hid (fun W => spec_ParseNumber ⟨y.toArray⟩ b W (by rw [ba_sz]; omega))
  rw [ba_of, hp] at HP
  have hat := fun W => at_run [116] 0 (by simp) W
  have hat' : ∀ W : World, (Instr.index 9 (str [116]) (.int .i64 0)).run Tryz.prog W = .ok (.int .u8 116) W := hat
  clear hat
  have CF := Lib.hid (cr_facts w n b)
  clear hw hs hsh hp hy
  go_enter Tryz.func54, Tryz.ntmps54
  go_wp2_with fail
  refine (HS.out _).mono ?_
  rintro e w1 ⟨g, cap, rfl, hr, hb⟩
  have hcr := CF.out w1 (hb.mono (by simp))
  have HC := Lib.hid hcr.1
  have HB1 := Lib.hid hcr.2
  have k0 : w1.cell? ⟨g, 0, none⟩ = some (str x) := hr.at.2.2.2.2.2.1 0 (by simp)
  have k1 : w1.cell? ⟨g, 1, none⟩ = some (str y) := hr.at.2.2.2.2.2.1 1 (by simp)
  have hcap : 2 ≤ cap := hr.at.2.2.2.1
  have HG := Lib.hid (show g < w1.heap.size from hr.at.2.2.1)
  have d1 := HC.out.d1
  have l0 := HC.out.ln.c0
  have l1 := HC.out.ln.c1
  have l2 := HC.out.ln.c2
  have l3 := HC.out.ln.c3
  have l4 := HC.out.ln.c4
  have lf := HC.out.ln.free
  obtain ⟨y0, e0⟩ := HC.out.box.cell 0 (by omega)
  obtain ⟨y1, e1⟩ := HC.out.box.cell 1 (by omega)
  obtain ⟨y2, e2⟩ := HC.out.box.cell 2 (by omega)
  obtain ⟨y3, e3⟩ := HC.out.box.cell 3 (by omega)
  obtain ⟨y4, e4⟩ := HC.out.box.cell 4 (by omega)
  have ef := HC.out.box.free
  clear hr hb hcr
  go_wp2_with (go_at_call 85; refine (HH.out _).mono ?_; rintro e w2 ⟨rfl, rfl⟩)
  all_goals
    refine wp_loop_rounds 2 ?_
    rw [rounds_succ]
    go_wp2_with fail
    refine (HP.out _).mono ?_
    rintro e w3 ⟨rfl, hb⟩
    have HLN := Lib.hid (HC.out.ln.keep hb)
    have HBX := Lib.hid (HC.out.box.keep hb (by have := HC.out.ln.lt; omega))
    have HB3 := Lib.hid (HB1.out.trans (hb.mono HB1.out.size))
    have K0 := (hb.cell (p := ⟨g, 0, none⟩) HG.out).trans k0
    clear hb k0 k1 d1 l0 l1 l2 l3 l4 lf e0 e1 e2 e3 e4 ef
    have l0 := HLN.out.c0
    have l1 := HLN.out.c1
    have l2 := HLN.out.c2
    have l3 := HLN.out.c3
    have l4 := HLN.out.c4
    have lf := HLN.out.free
    obtain ⟨z0, e0⟩ := HBX.out.cell 0 (by omega)
    obtain ⟨z1, e1⟩ := HBX.out.cell 1 (by omega)
    obtain ⟨z2, e2⟩ := HBX.out.cell 2 (by omega)
    obtain ⟨z3, e3⟩ := HBX.out.cell 3 (by omega)
    obtain ⟨z4, e4⟩ := HBX.out.cell 4 (by omega)
    have ef := HBX.out.free
    have HB4 := Lib.hid (HB3.out.setCell (p := ⟨w.heap.size + 1 + 1, 2, none⟩) (by show w.heap.size ≤ w.heap.size + 1 + 1; omega) (.int .i64 0))
    have HBX4 := Lib.hid (show Box5 (w3.setCell ⟨w.heap.size + 1 + 1, 2, none⟩ (.int .i64 0)) (w.heap.size + 1) from HBX.out.keep ((Below.refl (w.heap.size + 1 + 1) w3).setCell (p := ⟨w.heap.size + 1 + 1, 2, none⟩) (Nat.le_refl _) _) (Nat.lt_succ_self _))
    go_wp2
    go_region
    all_goals
      go_wp2
      refine bodyPost_ret (ret_mid5 rfl _ _ (w.heap.size + 1) _ _ _ _ _ rfl HBX4.out) rfl ?_
      exact ⟨rfl, (set5_below HB4.out (by omega) _ _ _ _ _).drew⟩
set_option maxHeartbeats 4000000 in
theorem cr_w_yes (n b : Int) (s x y : Tx) (hs : s.length ≤ 1000000) (hw : spl 32 s = [x, y]) (hsh : shp x = [119]) (hy : y.length ≤ 1000000) (hp : okL y = true) (w : World) :
    Calls Tryz.prog 54 #[dsk n b, str s] w fun e w' => e = .returned (.tuple #[str x, lnV n b 0 y (.slice none 0 0), .bool true]) ∧ Below w.heap.size w w' := by
  have HS := Lib.hid (fun W => l1Split_any s 32 32 rfl hs W)
  rw [hw] at HS
  have HH := Lib.hid (fun W => coShape_any x W)
  rw [hsh] at HH
  have HP := Lib.hid (fun W => coLetters_any y hy W)
  rw [hp] at HP
  have hat := fun W => at_run [119] 0 (by simp) W
  have hat' : ∀ W : World, (Instr.index 9 (str [119]) (.int .i64 0)).run Tryz.prog W = .ok (.int .u8 119) W := hat
  clear hat
  have CF := Lib.hid (cr_facts w n b)
  clear hw hs hsh hp hy
  go_enter Tryz.func54, Tryz.ntmps54
  go_wp2_with fail
  refine (HS.out _).mono ?_
  rintro e w1 ⟨g, cap, rfl, hr, hb⟩
  have hcr := CF.out w1 (hb.mono (by simp))
  have HC := Lib.hid hcr.1
  have HB1 := Lib.hid hcr.2
  have k0 : w1.cell? ⟨g, 0, none⟩ = some (str x) := hr.at.2.2.2.2.2.1 0 (by simp)
  have k1 : w1.cell? ⟨g, 1, none⟩ = some (str y) := hr.at.2.2.2.2.2.1 1 (by simp)
  have hcap : 2 ≤ cap := hr.at.2.2.2.1
  have HG := Lib.hid (show g < w1.heap.size from hr.at.2.2.1)
  have d1 := HC.out.d1
  have l0 := HC.out.ln.c0
  have l1 := HC.out.ln.c1
  have l2 := HC.out.ln.c2
  have l3 := HC.out.ln.c3
  have l4 := HC.out.ln.c4
  have lf := HC.out.ln.free
  obtain ⟨y0, e0⟩ := HC.out.box.cell 0 (by omega)
  obtain ⟨y1, e1⟩ := HC.out.box.cell 1 (by omega)
  obtain ⟨y2, e2⟩ := HC.out.box.cell 2 (by omega)
  obtain ⟨y3, e3⟩ := HC.out.box.cell 3 (by omega)
  obtain ⟨y4, e4⟩ := HC.out.box.cell 4 (by omega)
  have ef := HC.out.box.free
  clear hr hb hcr
  go_wp2_with (go_at_call 85; refine (HH.out _).mono ?_; rintro e w2 ⟨rfl, rfl⟩)
  all_goals
    refine wp_loop_rounds 2 ?_
    rw [rounds_succ]
    go_wp2_with fail
    refine (HP.out _).mono ?_
    rintro e w3 ⟨rfl, hb⟩
    have HSET := Lib.hid (show Below (w.heap.size + 1 + 1) w2 (w2.setCell ⟨w.heap.size + 1 + 1, 3, none⟩ (str y)) from (Below.refl _ _).setCell (p := ⟨w.heap.size + 1 + 1, 3, none⟩) (Nat.le_refl _) _)
    have hne : ∀ j, j ≠ 3 → (⟨w.heap.size + 1 + 1, 3, none⟩ : Addr) ≠ ⟨w.heap.size + 1 + 1, j, none⟩ := fun j hj e => hj (by injection e with _ h2 _; exact h2.symm)
    have HLN := Lib.hid (show Ln (w2.setCell ⟨w.heap.size + 1 + 1, 3, none⟩ (str y)) (w.heap.size + 1 + 1) n b 0 y (.slice none 0 0) from ⟨by simpa using HC.out.ln.lt, (World.cell?_setCell_other _ _ _ _ (hne 0 (by omega))).trans l0, (World.cell?_setCell_other _ _ _ _ (hne 1 (by omega))).trans l1, (World.cell?_setCell_other _ _ _ _ (hne 2 (by omega))).trans l2, World.cell?_setCell_same _ _ _ l3, (World.cell?_setCell_other _ _ _ _ (hne 4 (by omega))).trans l4, fun j => by rw [World.frozen?_setCell]; exact lf j⟩)
    have HBXA := Lib.hid (show Box5 (w2.setCell ⟨w.heap.size + 1 + 1, 3, none⟩ (str y)) (w.heap.size + 1) from HC.out.box.keep HSET.out (Nat.lt_succ_self _))
    have HLN3 := Lib.hid (HLN.out.keep hb)
    have HBX := Lib.hid (HBXA.out.keep hb (Nat.lt_trans (Nat.lt_succ_self _) HLN.out.lt))
    have HB3 := Lib.hid ((HB1.out.trans (HSET.out.mono (by omega))).trans (hb.mono (by have := HB1.out.size; simpa using this)))
    have HGN := Lib.hid (show (⟨w.heap.size + 1 + 1, 3, none⟩ : Addr) ≠ ⟨g, 0, none⟩ from fun e => by
      simp at e)
    have K0 : w3.cell? ⟨g, 0, none⟩ = some (str x) := (hb.cell (p := ⟨g, 0, none⟩) (by simpa using HG.out)).trans ((World.cell?_setCell_other _ _ _ _ HGN.out).trans k0)
    clear hb k0 k1 d1 l0 l1 l2 l3 l4 lf e0 e1 e2 e3 e4 ef
    have l0 := HLN3.out.c0
    have l1 := HLN3.out.c1
    have l2 := HLN3.out.c2
    have l3 := HLN3.out.c3
    have l4 := HLN3.out.c4
    have lf := HLN3.out.free
    obtain ⟨z0, e0⟩ := HBX.out.cell 0 (by omega)
    obtain ⟨z1, e1⟩ := HBX.out.cell 1 (by omega)
    obtain ⟨z2, e2⟩ := HBX.out.cell 2 (by omega)
    obtain ⟨z3, e3⟩ := HBX.out.cell 3 (by omega)
    obtain ⟨z4, e4⟩ := HBX.out.cell 4 (by omega)
    have ef := HBX.out.free
    go_wp2
    rw [rounds_succ]
    go_wp2
    go_region
    all_goals
      go_wp2
      refine bodyPost_ret (ret_mid5 rfl _ _ (w.heap.size + 1) _ _ _ _ _ rfl HBX.out) rfl ?_
      exact ⟨rfl, (set5_below HB3.out (by omega) _ _ _ _ _).drew⟩
set_option maxHeartbeats 4000000 in
theorem cr_w_no (n b : Int) (s x y : Tx) (hs : s.length ≤ 1000000) (hw : spl 32 s = [x, y]) (hsh : shp x = [119]) (hy : y.length ≤ 1000000) (hp : okL y = false) (w : World) :
    Calls Tryz.prog 54 #[dsk n b, str s] w fun e w' => e = .returned (.tuple #[str [], lnV n b 0 y (.slice none 0 0), .bool false]) ∧ Below w.heap.size w w' := by
  have HS := Lib.hid (fun W => l1Split_any s 32 32 rfl hs W)
  rw [hw] at HS
  have HH := Lib.hid (fun W => coShape_any x W)
  rw [hsh] at HH
  have HP := Lib.hid (fun W => coLetters_any y hy W)
  rw [hp] at HP
  have hat := fun W => at_run [119] 0 (by simp) W
  have hat' : ∀ W : World, (Instr.index 9 (str [119]) (.int .i64 0)).run Tryz.prog W = .ok (.int .u8 119) W := hat
  clear hat
  have CF := Lib.hid (cr_facts w n b)
  clear hw hs hsh hp hy
  go_enter Tryz.func54, Tryz.ntmps54
  go_wp2_with fail
  refine (HS.out _).mono ?_
  rintro e w1 ⟨g, cap, rfl, hr, hb⟩
  have hcr := CF.out w1 (hb.mono (by simp))
  have HC := Lib.hid hcr.1
  have HB1 := Lib.hid hcr.2
  have k0 : w1.cell? ⟨g, 0, none⟩ = some (str x) := hr.at.2.2.2.2.2.1 0 (by simp)
  have k1 : w1.cell? ⟨g, 1, none⟩ = some (str y) := hr.at.2.2.2.2.2.1 1 (by simp)
  have hcap : 2 ≤ cap := hr.at.2.2.2.1
  have HG := Lib.hid (show g < w1.heap.size from hr.at.2.2.1)
  have d1 := HC.out.d1
  have l0 := HC.out.ln.c0
  have l1 := HC.out.ln.c1
  have l2 := HC.out.ln.c2
  have l3 := HC.out.ln.c3
  have l4 := HC.out.ln.c4
  have lf := HC.out.ln.free
  obtain ⟨y0, e0⟩ := HC.out.box.cell 0 (by omega)
  obtain ⟨y1, e1⟩ := HC.out.box.cell 1 (by omega)
  obtain ⟨y2, e2⟩ := HC.out.box.cell 2 (by omega)
  obtain ⟨y3, e3⟩ := HC.out.box.cell 3 (by omega)
  obtain ⟨y4, e4⟩ := HC.out.box.cell 4 (by omega)
  have ef := HC.out.box.free
  clear hr hb hcr
  go_wp2_with (go_at_call 85; refine (HH.out _).mono ?_; rintro e w2 ⟨rfl, rfl⟩)
  all_goals
    refine wp_loop_rounds 2 ?_
    rw [rounds_succ]
    go_wp2_with fail
    refine (HP.out _).mono ?_
    rintro e w3 ⟨rfl, hb⟩
    have HSET := Lib.hid (show Below (w.heap.size + 1 + 1) w2 (w2.setCell ⟨w.heap.size + 1 + 1, 3, none⟩ (str y)) from (Below.refl _ _).setCell (p := ⟨w.heap.size + 1 + 1, 3, none⟩) (Nat.le_refl _) _)
    have hne : ∀ j, j ≠ 3 → (⟨w.heap.size + 1 + 1, 3, none⟩ : Addr) ≠ ⟨w.heap.size + 1 + 1, j, none⟩ := fun j hj e => hj (by injection e with _ h2 _; exact h2.symm)
    have HLN := Lib.hid (show Ln (w2.setCell ⟨w.heap.size + 1 + 1, 3, none⟩ (str y)) (w.heap.size + 1 + 1) n b 0 y (.slice none 0 0) from ⟨by simpa using HC.out.ln.lt, (World.cell?_setCell_other _ _ _ _ (hne 0 (by omega))).trans l0, (World.cell?_setCell_other _ _ _ _ (hne 1 (by omega))).trans l1, (World.cell?_setCell_other _ _ _ _ (hne 2 (by omega))).trans l2, World.cell?_setCell_same _ _ _ l3, (World.cell?_setCell_other _ _ _ _ (hne 4 (by omega))).trans l4, fun j => by rw [World.frozen?_setCell]; exact lf j⟩)
    have HBXA := Lib.hid (show Box5 (w2.setCell ⟨w.heap.size + 1 + 1, 3, none⟩ (str y)) (w.heap.size + 1) from HC.out.box.keep HSET.out (Nat.lt_succ_self _))
    have HLN3 := Lib.hid (HLN.out.keep hb)
    have HBX := Lib.hid (HBXA.out.keep hb (Nat.lt_trans (Nat.lt_succ_self _) HLN.out.lt))
    have HB3 := Lib.hid ((HB1.out.trans (HSET.out.mono (by omega))).trans (hb.mono (by have := HB1.out.size; simpa using this)))
    have HGN := Lib.hid (show (⟨w.heap.size + 1 + 1, 3, none⟩ : Addr) ≠ ⟨g, 0, none⟩ from fun e => by
      simp at e)
    have K0 : w3.cell? ⟨g, 0, none⟩ = some (str x) := (hb.cell (p := ⟨g, 0, none⟩) (by simpa using HG.out)).trans ((World.cell?_setCell_other _ _ _ _ HGN.out).trans k0)
    clear hb k0 k1 d1 l0 l1 l2 l3 l4 lf e0 e1 e2 e3 e4 ef
    have l0 := HLN3.out.c0
    have l1 := HLN3.out.c1
    have l2 := HLN3.out.c2
    have l3 := HLN3.out.c3
    have l4 := HLN3.out.c4
    have lf := HLN3.out.free
    obtain ⟨z0, e0⟩ := HBX.out.cell 0 (by omega)
    obtain ⟨z1, e1⟩ := HBX.out.cell 1 (by omega)
    obtain ⟨z2, e2⟩ := HBX.out.cell 2 (by omega)
    obtain ⟨z3, e3⟩ := HBX.out.cell 3 (by omega)
    obtain ⟨z4, e4⟩ := HBX.out.cell 4 (by omega)
    have ef := HBX.out.free
    go_wp2
    go_region
    all_goals
      go_wp2
      refine bodyPost_ret (ret_mid5 rfl _ _ (w.heap.size + 1) _ _ _ _ _ rfl HBX.out) rfl ?_
      exact ⟨rfl, (set5_below HB3.out (by omega) _ _ _ _ _).drew⟩
set_option maxHeartbeats 4000000 in
theorem cr_n_yes (n b k : Int) (s x y : Tx) (hs : s.length ≤ 1000000) (hw : spl 32 s = [x, y]) (hsh : shp x = [110]) (hy : y.length ≤ 1000000) (hp : rdN y = some k) (w : World) :
    Calls Tryz.prog 54 #[dsk n b, str s] w fun e w' => (∃ p cp, e = .returned (.tuple #[str x, lnV n b 0 [] (.slice (some ⟨p, 0, none⟩) 1 cp), .bool true]) ∧ w'.cell? ⟨p, 0, none⟩ = some (.int .i64 k) ∧ p < w'.heap.size) ∧ Below w.heap.size w w' := by
  have HS := Lib.hid (fun W => l1Split_any s 32 32 rfl hs W)
  rw [hw] at HS
  have HH := Lib.hid (fun W => coShape_any x W)
  rw [hsh] at HH
  have HP := Lib.hid (fun W => l1Read_any y hy W)
  rw [hp] at HP
  have hk0 := (rdN_rng hp).1
  have HP' := Lib.hid (show ∀ W, Calls Tryz.prog 86 #[str y] W fun e w' => e = .returned (.int .i64 k) ∧ Below W.heap.size W w' from HP.out)
  have hat := fun W => at_run [110] 0 (by simp) W
  have hat' : ∀ W : World, (Instr.index 9 (str [110]) (.int .i64 0)).run Tryz.prog W = .ok (.int .u8 110) W := hat
  clear hat
  have CF := Lib.hid (cr_facts w n b)
  clear hw hs hsh hp hy HP
  go_enter Tryz.func54, Tryz.ntmps54
  go_wp2_with fail
  refine (HS.out _).mono ?_
  rintro e w1 ⟨g, cap, rfl, hr, hb⟩
  have hcr := CF.out w1 (hb.mono (by simp))
  have HC := Lib.hid hcr.1
  have HB1 := Lib.hid hcr.2
  have k0 : w1.cell? ⟨g, 0, none⟩ = some (str x) := hr.at.2.2.2.2.2.1 0 (by simp)
  have k1 : w1.cell? ⟨g, 1, none⟩ = some (str y) := hr.at.2.2.2.2.2.1 1 (by simp)
  have hcap : 2 ≤ cap := hr.at.2.2.2.1
  have HG := Lib.hid (show g < w1.heap.size from hr.at.2.2.1)
  have d1 := HC.out.d1
  have l0 := HC.out.ln.c0
  have l1 := HC.out.ln.c1
  have l2 := HC.out.ln.c2
  have l3 := HC.out.ln.c3
  have l4 := HC.out.ln.c4
  have lf := HC.out.ln.free
  obtain ⟨y0, e0⟩ := HC.out.box.cell 0 (by omega)
  obtain ⟨y1, e1⟩ := HC.out.box.cell 1 (by omega)
  obtain ⟨y2, e2⟩ := HC.out.box.cell 2 (by omega)
  obtain ⟨y3, e3⟩ := HC.out.box.cell 3 (by omega)
  obtain ⟨y4, e4⟩ := HC.out.box.cell 4 (by omega)
  have ef := HC.out.box.free
  clear hr hb hcr
  go_wp2_with (go_at_call 85; refine (HH.out _).mono ?_; rintro e w2 ⟨rfl, rfl⟩)
  all_goals
    refine wp_loop_rounds 2 ?_
    rw [rounds_succ]
    go_wp2_with fail
    refine (HP'.out _).mono ?_
    rintro e w3 ⟨rfl, hb⟩
    have HLN := Lib.hid (HC.out.ln.keep hb)
    have HBX := Lib.hid (HC.out.box.keep hb (by have := HC.out.ln.lt; omega))
    have HB3 := Lib.hid (HB1.out.trans (hb.mono HB1.out.size))
    have K0 := (hb.cell (p := ⟨g, 0, none⟩) HG.out).trans k0
    have HG3 := Lib.hid (Nat.lt_of_lt_of_le HG.out hb.size)
    clear hb k0 k1 d1 l0 l1 l2 l3 l4 lf e0 e1 e2 e3 e4 ef
    have l4 := HLN.out.c4
    go_wp2_with (at_builtin; refine wpList_appR rfl _ _ rfl w3.heap.size w3.heap.size _ _ [] [k] rfl rfl (Rd.nil _ _) (Rd.litB w3 w3.heap.size k (Nat.le_refl _)) (by simp) (by simp) ?_; intro v' w4 hr4 hg4 hb4; have hr5 : Rd w4 w3.heap.size v' [k] := hr4; obtain ⟨p, cp, hv', h4⟩ := rd_someC hr5; subst hv'; have hpk := h4.1; have HPL := Lib.hid h4.2; clear hr5 h4; have HR4 := Lib.hid hr4; have HB4 := Lib.hid ((alloc_belowD w3 _).trans hb4); clear hr4 hg4 hb4; have HLN4 := Lib.hid (HLN.out.keep HB4.out); have HBX4 := Lib.hid (HBX.out.keep HB4.out (by have := HLN.out.lt; omega)); have l4b := HLN4.out.c4; have lf := HLN4.out.free; clear l4)
    have HB5 := Lib.hid (show Below w.heap.size w w4 from HB3.out.trans (HB4.out.mono HB3.out.size))
    have K4 := (HB4.out.cell (p := ⟨g, 0, none⟩) HG3.out).trans K0
    have l0 := HLN4.out.c0
    have l1 := HLN4.out.c1
    have l2 := HLN4.out.c2
    have l3 := HLN4.out.c3
    obtain ⟨z0, e0⟩ := HBX4.out.cell 0 (by omega)
    obtain ⟨z1, e1⟩ := HBX4.out.cell 1 (by omega)
    obtain ⟨z2, e2⟩ := HBX4.out.cell 2 (by omega)
    obtain ⟨z3, e3⟩ := HBX4.out.cell 3 (by omega)
    obtain ⟨z4, e4⟩ := HBX4.out.cell 4 (by omega)
    have ef := HBX4.out.free
    have HB6 := Lib.hid (HB5.out.setCell (p := ⟨w.heap.size + 1 + 1, 4, none⟩) (by show w.heap.size ≤ w.heap.size + 1 + 1; omega) (.slice (some ⟨p, 0, none⟩) 1 cp))
    have HBX6 := Lib.hid (show Box5 (w4.setCell ⟨w.heap.size + 1 + 1, 4, none⟩ (.slice (some ⟨p, 0, none⟩) 1 cp)) (w.heap.size + 1) from HBX4.out.keep ((Below.refl (w.heap.size + 1 + 1) w4).setCell (p := ⟨w.heap.size + 1 + 1, 4, none⟩) (Nat.le_refl _) _) (Nat.lt_succ_self _))
    have HPC := Lib.hid (show ∀ u, (w4.setCell ⟨w.heap.size + 1 + 1, 4, none⟩ u).cell? ⟨p, 0, none⟩ = some (.int .i64 k) from fun u => (World.cell?_setCell_other _ _ _ _ (fun e => by injection e with h1 _ _; have := HPL.out; have := HLN.out.lt; omega)).trans hpk)
    clear K0 hpk
    go_wp2
    rw [rounds_succ]
    go_wp2
    go_region
    all_goals
      go_wp2
      refine bodyPost_ret (ret_mid5 rfl _ _ (w.heap.size + 1) _ _ _ _ _ rfl HBX6.out) rfl ?_
      exact ⟨⟨p, cp, rfl, n_cell HPL.out HLN.out.lt (HPC.out _), by simpa using Nat.lt_of_lt_of_le HPL.out.2 (Nat.le_refl _)⟩, (set5_below HB6.out (by omega) _ _ _ _ _).drew⟩
set_option maxHeartbeats 4000000 in
theorem cr_n_no (n b : Int) (s x y : Tx) (hs : s.length ≤ 1000000) (hw : spl 32 s = [x, y]) (hsh : shp x = [110]) (hy : y.length ≤ 1000000) (hp : rdN y = none) (w : World) :
    Calls Tryz.prog 54 #[dsk n b, str s] w fun e w' => (∃ p cp, e = .returned (.tuple #[str [], lnV n b 0 [] (.slice (some ⟨p, 0, none⟩) 1 cp), .bool false])) ∧ Below w.heap.size w w' := by
  have HS := Lib.hid (fun W => l1Split_any s 32 32 rfl hs W)
  rw [hw] at HS
  have HH := Lib.hid (fun W => coShape_any x W)
  rw [hsh] at HH
  have HP := Lib.hid (fun W => l1Read_any y hy W)
  rw [hp] at HP
  obtain ⟨k, hk1⟩ : ∃ k : Int, k = -1 := ⟨_, rfl⟩
  have hkn : ¬ 0 ≤ k := by omega
  have hkd : decide (0 ≤ k) = false := decide_eq_false hkn
  have HP' := Lib.hid (show ∀ W, Calls Tryz.prog 86 #[str y] W fun e w' => e = .returned (.int .i64 k) ∧ Below W.heap.size W w' by rw [hk1]; exact HP.out)
  clear hk1
  have hat := fun W => at_run [110] 0 (by simp) W
  have hat' : ∀ W : World, (Instr.index 9 (str [110]) (.int .i64 0)).run Tryz.prog W = .ok (.int .u8 110) W := hat
  clear hat
  have CF := Lib.hid (cr_facts w n b)
  clear hw hs hsh hp hy HP
  go_enter Tryz.func54, Tryz.ntmps54
  go_wp2_with fail
  refine (HS.out _).mono ?_
  rintro e w1 ⟨g, cap, rfl, hr, hb⟩
  have hcr := CF.out w1 (hb.mono (by simp))
  have HC := Lib.hid hcr.1
  have HB1 := Lib.hid hcr.2
  have k0 : w1.cell? ⟨g, 0, none⟩ = some (str x) := hr.at.2.2.2.2.2.1 0 (by simp)
  have k1 : w1.cell? ⟨g, 1, none⟩ = some (str y) := hr.at.2.2.2.2.2.1 1 (by simp)
  have hcap : 2 ≤ cap := hr.at.2.2.2.1
  have HG := Lib.hid (show g < w1.heap.size from hr.at.2.2.1)
  have d1 := HC.out.d1
  have l0 := HC.out.ln.c0
  have l1 := HC.out.ln.c1
  have l2 := HC.out.ln.c2
  have l3 := HC.out.ln.c3
  have l4 := HC.out.ln.c4
  have lf := HC.out.ln.free
  obtain ⟨y0, e0⟩ := HC.out.box.cell 0 (by omega)
  obtain ⟨y1, e1⟩ := HC.out.box.cell 1 (by omega)
  obtain ⟨y2, e2⟩ := HC.out.box.cell 2 (by omega)
  obtain ⟨y3, e3⟩ := HC.out.box.cell 3 (by omega)
  obtain ⟨y4, e4⟩ := HC.out.box.cell 4 (by omega)
  have ef := HC.out.box.free
  clear hr hb hcr
  go_wp2_with (go_at_call 85; refine (HH.out _).mono ?_; rintro e w2 ⟨rfl, rfl⟩)
  all_goals
    refine wp_loop_rounds 2 ?_
    rw [rounds_succ]
    go_wp2_with fail
    refine (HP'.out _).mono ?_
    rintro e w3 ⟨rfl, hb⟩
    have HLN := Lib.hid (HC.out.ln.keep hb)
    have HBX := Lib.hid (HC.out.box.keep hb (by have := HC.out.ln.lt; omega))
    have HB3 := Lib.hid (HB1.out.trans (hb.mono HB1.out.size))
    have K0 := (hb.cell (p := ⟨g, 0, none⟩) HG.out).trans k0
    have HG3 := Lib.hid (Nat.lt_of_lt_of_le HG.out hb.size)
    clear hb k0 k1 d1 l0 l1 l2 l3 l4 lf e0 e1 e2 e3 e4 ef
    have l4 := HLN.out.c4
    go_wp2_with (at_builtin; refine wpList_appR rfl _ _ rfl w3.heap.size w3.heap.size _ _ [] [k] rfl rfl (Rd.nil _ _) (Rd.litB w3 w3.heap.size k (Nat.le_refl _)) (by simp) (by simp) ?_; intro v' w4 hr4 hg4 hb4; have hr5 : Rd w4 w3.heap.size v' [k] := hr4; obtain ⟨p, cp, hv', h4⟩ := rd_someC hr5; subst hv'; have hpk := h4.1; have HPL := Lib.hid h4.2; clear hr5 h4; have HR4 := Lib.hid hr4; have HB4 := Lib.hid ((alloc_belowD w3 _).trans hb4); clear hr4 hg4 hb4; have HLN4 := Lib.hid (HLN.out.keep HB4.out); have HBX4 := Lib.hid (HBX.out.keep HB4.out (by have := HLN.out.lt; omega)); have l4b := HLN4.out.c4; have lf := HLN4.out.free; clear l4)
    have HB5 := Lib.hid (show Below w.heap.size w w4 from HB3.out.trans (HB4.out.mono HB3.out.size))
    have K4 := (HB4.out.cell (p := ⟨g, 0, none⟩) HG3.out).trans K0
    have l0 := HLN4.out.c0
    have l1 := HLN4.out.c1
    have l2 := HLN4.out.c2
    have l3 := HLN4.out.c3
    obtain ⟨z0, e0⟩ := HBX4.out.cell 0 (by omega)
    obtain ⟨z1, e1⟩ := HBX4.out.cell 1 (by omega)
    obtain ⟨z2, e2⟩ := HBX4.out.cell 2 (by omega)
    obtain ⟨z3, e3⟩ := HBX4.out.cell 3 (by omega)
    obtain ⟨z4, e4⟩ := HBX4.out.cell 4 (by omega)
    have ef := HBX4.out.free
    have HB6 := Lib.hid (HB5.out.setCell (p := ⟨w.heap.size + 1 + 1, 4, none⟩) (by show w.heap.size ≤ w.heap.size + 1 + 1; omega) (.slice (some ⟨p, 0, none⟩) 1 cp))
    have HBX6 := Lib.hid (show Box5 (w4.setCell ⟨w.heap.size + 1 + 1, 4, none⟩ (.slice (some ⟨p, 0, none⟩) 1 cp)) (w.heap.size + 1) from HBX4.out.keep ((Below.refl (w.heap.size + 1 + 1) w4).setCell (p := ⟨w.heap.size + 1 + 1, 4, none⟩) (Nat.le_refl _) _) (Nat.lt_succ_self _))
    clear K0 hpk
    go_region
    all_goals
      go_wp2
      refine bodyPost_ret (ret_mid5 rfl _ _ (w.heap.size + 1) _ _ _ _ _ rfl HBX6.out) rfl ?_
      exact ⟨⟨p, cp, rfl⟩, (set5_below HB6.out (by omega) _ _ _ _ _).drew⟩

end Go.Proofs.YtlbjeiaihenjkaaGreatDoor
