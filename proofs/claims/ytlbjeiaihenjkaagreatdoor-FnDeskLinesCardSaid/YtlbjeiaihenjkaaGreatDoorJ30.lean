/-
  Joint text of CE: what each proves stands ahead of it.
-/
import Derived.Test.YtlbjeiaihenjkaaGreatDoorJ28
import Derived.Test.YtlbjeiaihenjkaaGreatDoorJ29
import Derived.Lib.LaidTab
import Derived.Lib.SmallJoins
import Derived.Deep.RegionWith
/- from CE: The console's memory (its two errors, the table of powers of ten); outcomes as values; the program's short methods.  -/
namespace Go.Proofs.YtlbjeiaihenjkaaGreatDoor
open Go.RowKit
set_option linter.unusedVariables false
set_option linter.unusedSimpArgs false
set_option maxRecDepth 100000

/-- Memory as the console's calls find it. -/
structure Env (w : World) (pn pw : Addr) : Prop where
  no : w.cell? ⟨1, 0, none⟩ = some (.iface 263 (.pointer (some pn)))
  what : w.cell? ⟨0, 0, none⟩ = some (.iface 263 (.pointer (some pw)))
  ne : pn ≠ pw
  rowN : ∃ c t, w.heap[pn.block]? = some (.cells c t (0, 0))
  rowW : ∃ c t, w.heap[pw.block]? = some (.cells c t (0, 0))
  len : ∃ m, w.cell? ⟨3, 0, none⟩ = some (.int .i64 m)
  tab : Lib.TabIs Tryz.prog w "internal/strconv.uint64pow10" .u64 Lib.pow10Tab

theorem cell_lt {w : World} {a : Addr} {v : Value} (h : w.cell? a = some v) : a.block < w.heap.size := by
  rcases Nat.lt_or_ge a.block w.heap.size with h1 | h1
  · exact h1
  · simp [World.cell?, Array.getElem?_eq_none h1] at h
theorem tabNamed : Tryz.prog.globalNamed "internal/strconv.uint64pow10" = some 6 := by kernel_rfl
theorem Env.keep {w w' : World} {pn pw : Addr} (h : Env w pn pw) (hb : Below w.heap.size w w') : Env w' pn pw := by
  obtain ⟨h1, h2, h3, ⟨c4, t4, h4⟩, ⟨c5, t5, h5⟩, ⟨m, h6⟩, h7⟩ := h
  refine ⟨(hb.cell (p := ⟨1, 0, none⟩) (cell_lt h1)).trans h1, (hb.cell (p := ⟨0, 0, none⟩) (cell_lt h2)).trans h2, h3, ⟨c4, t4, ?_⟩, ⟨c5, t5, ?_⟩,
    ⟨m, (hb.cell (p := ⟨3, 0, none⟩) (cell_lt h6)).trans h6⟩, Joins.tab_stays tabNamed h7 hb (Nat.le_refl _)⟩
  · rw [hb.block _ (Array.getElem?_eq_some_iff.1 h4).1]; exact h4
  · rw [hb.block _ (Array.getElem?_eq_some_iff.1 h5).1]; exact h5

def rpS : Rp → Tx
  | .say t => t
  | _ => []
def rpE (pn pw : Addr) : Rp → Value
  | .say _ => .nilIface
  | .no => .iface 263 (.pointer (some pn))
  | .what => .iface 263 (.pointer (some pw))
/-- An outcome as a value. -/
abbrev oc (pn pw : Addr) (o : Int × Int × Rp) : Value := .agg #[.int .i64 o.1, .int .i64 o.2.1, str (rpS o.2.2), rpE pn pw o.2.2]
theorem infoOc : (Tryz.prog.info? 60).map (·.size) = some 4 := by kernel_rfl
theorem load_oc (w : World) (s : Nat) (x0 x1 x2 x3 : Value) (h0 : w.cell? ⟨s, 0, none⟩ = some x0) (h1 : w.cell? ⟨s, 1, none⟩ = some x1) (h2 : w.cell? ⟨s, 2, none⟩ = some x2) (h3 : w.cell? ⟨s, 3, none⟩ = some x3) :
    (loadVar 60 ⟨s, 0, none⟩).run Tryz.prog w = .ok (.agg #[x0, x1, x2, x3]) w :=
  load_struct Tryz.underlying60 rfl [x0, x1, x2, x3] infoOc w s (fun j v hv => by
    match j, hv with
    | 0, hv => simp at hv; subst hv; exact h0
    | 1, hv => simp at hv; subst hv; exact h1
    | 2, hv => simp at hv; subst hv; exact h2
    | 3, hv => simp at hv; subst hv; exact h3
    | j + 4, hv => simp at hv)

theorem ret_oc {fn : Func} {p : Tmp} (h : fn.results = #[.cell p 60]) (tmps : Array Value) (w : World) (s : Nat) (x0 x1 x2 x3 : Value) (hp : tmps.getD p undef = .pointer (some ⟨s, 0, none⟩))
    (h0 : w.cell? ⟨s, 0, none⟩ = some x0) (h1 : w.cell? ⟨s, 1, none⟩ = some x1) (h2 : w.cell? ⟨s, 2, none⟩ = some x2) (h3 : w.cell? ⟨s, 3, none⟩ = some x3) : (results fn tmps).run Tryz.prog w = .ok (.agg #[x0, x1, x2, x3]) w :=
  results_one h tmps w s _ hp (load_oc w s x0 x1 x2 x3 h0 h1 h2 h3)

/-- A block of four cells that may be written. -/
structure Box4 (w : World) (s : Nat) : Prop where
  cell : ∀ j, j < 4 → ∃ y, w.cell? ⟨s, j, none⟩ = some y
  free : ∀ j, w.frozen? ⟨s, j, none⟩ = false
theorem Box4.keep {w w' : World} {s B : Nat} (h : Box4 w s) (hb : Below B w w') (hs : s < B) : Box4 w' s :=
  ⟨fun j hj => by obtain ⟨y, hy⟩ := h.cell j hj; exact ⟨y, (hb.cell (p := ⟨s, j, none⟩) hs).trans hy⟩, fun j => (hb.frozen (p := ⟨s, j, none⟩) hs).trans (h.free j)⟩
theorem Box4.all {w : World} {s : Nat} (h : Box4 w s) : ∃ y0 y1 y2 y3, w.cell? ⟨s, 0, none⟩ = some y0 ∧ w.cell? ⟨s, 1, none⟩ = some y1 ∧ w.cell? ⟨s, 2, none⟩ = some y2 ∧ w.cell? ⟨s, 3, none⟩ = some y3 := by
  obtain ⟨y0, h0⟩ := h.cell 0 (by omega)
  obtain ⟨y1, h1⟩ := h.cell 1 (by omega)
  obtain ⟨y2, h2⟩ := h.cell 2 (by omega)
  obtain ⟨y3, h3⟩ := h.cell 3 (by omega)
  exact ⟨y0, y1, y2, y3, h0, h1, h2, h3⟩

/-- A world with four cells of a block written. -/
abbrev set4 (w : World) (s : Nat) (x0 x1 x2 x3 : Value) : World := (((w.setCell ⟨s, 0, none⟩ x0).setCell ⟨s, 1, none⟩ x1).setCell ⟨s, 2, none⟩ x2).setCell ⟨s, 3, none⟩ x3
theorem set4_cells {w : World} {s : Nat} (h : Box4 w s) (x0 x1 x2 x3 : Value) :
    (set4 w s x0 x1 x2 x3).cell? ⟨s, 0, none⟩ = some x0 ∧ (set4 w s x0 x1 x2 x3).cell? ⟨s, 1, none⟩ = some x1 ∧ (set4 w s x0 x1 x2 x3).cell? ⟨s, 2, none⟩ = some x2 ∧ (set4 w s x0 x1 x2 x3).cell? ⟨s, 3, none⟩ = some x3 := by
  obtain ⟨y0, y1, y2, y3, h0, h1, h2, h3⟩ := h.all
  have ne : ∀ (i j : Nat), i ≠ j → (⟨s, i, none⟩ : Addr) ≠ ⟨s, j, none⟩ := fun i j hij e => hij (by simp at e)
  have o := World.cell?_setCell_other
  refine ⟨?_, ?_, ?_, ?_⟩
  · rw [o _ _ _ _ (ne 3 0 (by omega)), o _ _ _ _ (ne 2 0 (by omega)), o _ _ _ _ (ne 1 0 (by omega))]
    exact World.cell?_setCell_same _ _ _ h0
  · rw [o _ _ _ _ (ne 3 1 (by omega)), o _ _ _ _ (ne 2 1 (by omega))]
    exact World.cell?_setCell_same _ _ _ ((o _ _ _ _ (ne 0 1 (by omega))).trans h1)
  · rw [o _ _ _ _ (ne 3 2 (by omega))]
    exact World.cell?_setCell_same _ _ _ ((o _ _ _ _ (ne 1 2 (by omega))).trans ((o _ _ _ _ (ne 0 2 (by omega))).trans h2))
  · exact World.cell?_setCell_same _ _ _ ((o _ _ _ _ (ne 2 3 (by omega))).trans ((o _ _ _ _ (ne 1 3 (by omega))).trans ((o _ _ _ _ (ne 0 3 (by omega))).trans h3)))
theorem set4_below {B : Nat} {w0 w : World} {s : Nat} (hb : Below B w0 w) (hs : B ≤ s) (x0 x1 x2 x3 : Value) : Below B w0 (set4 w s x0 x1 x2 x3) :=
  (((hb.setCell (p := ⟨s, 0, none⟩) hs _).setCell (p := ⟨s, 1, none⟩) hs _).setCell (p := ⟨s, 2, none⟩) hs _).setCell (p := ⟨s, 3, none⟩) hs _
theorem ret_set4 {fn : Func} {p : Tmp} (h : fn.results = #[.cell p 60]) (tmps : Array Value) (w : World) (s : Nat) (x0 x1 x2 x3 : Value) (hp : tmps.getD p undef = .pointer (some ⟨s, 0, none⟩)) (hB : Box4 w s) :
    (results fn tmps).run Tryz.prog (set4 w s x0 x1 x2 x3) = .ok (.agg #[x0, x1, x2, x3]) (set4 w s x0 x1 x2 x3) := by
  obtain ⟨h0, h1, h2, h3⟩ := set4_cells hB x0 x1 x2 x3
  exact ret_oc h tmps _ s x0 x1 x2 x3 hp h0 h1 h2 h3

theorem two_below (w : World) (o1 o2 : Obj) : Below w.heap.size w ((w.alloc o1).alloc o2) := (alloc_belowD _ _).trans ((alloc_belowD _ _).mono (by simp))
/-- The method's own copy of the desk lies in block s, the place of its result behind it. -/
theorem box_facts (w : World) (n b : Int) (x0 x1 x2 x3 : Value) (o : Obj) (ho : o = .cells #[x0, x1, x2, x3] 60) (w' : World) (hb : Below (w.heap.size + 2) ((w.alloc (.cells #[.int .i64 n, .int .i64 b] 24)).alloc o) w') :
    w'.cell? ⟨w.heap.size, 0, none⟩ = some (.int .i64 n) ∧ w'.cell? ⟨w.heap.size, 1, none⟩ = some (.int .i64 b) ∧ Box4 w' (w.heap.size + 1) ∧ Below w.heap.size w w' := by
  subst ho
  refine ⟨(hb.cell (p := ⟨w.heap.size, 0, none⟩) (by simp)).trans (by simp [go_sem]), (hb.cell (p := ⟨w.heap.size, 1, none⟩) (by simp)).trans (by simp [go_sem]), ⟨fun j hj => ?_, fun j => ?_⟩, (two_below w _ _).trans (hb.mono (by omega))⟩
  · have e := hb.cell (p := ⟨w.heap.size + 1, j, none⟩) (by simp)
    rw [e]
    match j, hj with
    | 0, _ => exact ⟨x0, by simp [go_sem]⟩
    | 1, _ => exact ⟨x1, by simp [go_sem]⟩
    | 2, _ => exact ⟨x2, by simp [go_sem]⟩
    | 3, _ => exact ⟨x3, by simp [go_sem]⟩
    | j + 4, h => omega
  · have e := hb.frozen (p := ⟨w.heap.size + 1, j, none⟩) (by simp)
    rw [e]
    simp [go_sem]

theorem fail_no (n b : Int) (pn pw : Addr) (w : World) : Calls Tryz.prog 61 #[dsk n b, .iface 263 (.pointer (some pn))] w fun e w' => e = .returned (oc pn pw (n, b, .no)) ∧ Below w.heap.size w w' := by
  go_enter Tryz.func61, Tryz.ntmps61
  go_wp2
  refine bodyPost_ret (v := oc pn pw (n, b, .no)) (ret_oc rfl _ _ (w.heap.size + 1) _ _ _ _ rfl (by simp [go_sem]) (by simp [go_sem]) (by simp [go_sem, rpS]) (by simp [go_sem, rpE])) rfl ?_
  exact ⟨rfl, two_below _ _ _⟩
theorem fail_what (n b : Int) (pn pw : Addr) (w : World) : Calls Tryz.prog 61 #[dsk n b, .iface 263 (.pointer (some pw))] w fun e w' => e = .returned (oc pn pw (n, b, .what)) ∧ Below w.heap.size w w' := by
  go_enter Tryz.func61, Tryz.ntmps61
  go_wp2
  refine bodyPost_ret (v := oc pn pw (n, b, .what)) (ret_oc rfl _ _ (w.heap.size + 1) _ _ _ _ rfl (by simp [go_sem]) (by simp [go_sem]) (by simp [go_sem, rpS]) (by simp [go_sem, rpE])) rfl ?_
  exact ⟨rfl, two_below _ _ _⟩

theorem say_yes (n b : Int) (t : Tx) (pn pw : Addr) (w : World) : Calls Tryz.prog 118 #[dsk n b, str t, .bool true] w fun e w' => e = .returned (oc pn pw (n, b, .say (orD t))) ∧ Below w.heap.size w w' := by
  cases t with
  | nil =>
    go_enter Tryz.func118, Tryz.ntmps118
    go_wp2
    refine bodyPost_ret (v := oc pn pw (n, b, .say (orD []))) (ret_oc rfl _ _ (w.heap.size + 1) _ _ _ _ rfl (by simp [go_sem]) (by simp [go_sem]) (by simp [go_sem, rpS, orD]) (by simp [go_sem, rpE])) rfl ?_
    exact ⟨rfl, two_below _ _ _⟩
  | cons x t =>
    obtain ⟨q, hq⟩ : ∃ q, q = x :: t := ⟨_, rfl⟩
    have he : List.isEmpty q = false := by rw [hq]; rfl
    have ho := Lib.hid (show orD q = q by rw [hq]; rfl)
    rw [← hq]
    clear hq
    rw [ho.out]
    go_enter Tryz.func118, Tryz.ntmps118
    go_wp2
    refine bodyPost_ret (v := oc pn pw (n, b, .say q)) (ret_oc rfl _ _ (w.heap.size + 1) _ _ _ _ rfl (by simp [go_sem]) (by simp [go_sem]) (by simp [go_sem, rpS]) (by simp [go_sem, rpE])) rfl ?_
    exact ⟨rfl, two_below _ _ _⟩
theorem say_no (n b : Int) (t : Tx) (pn pw : Addr) (w : World) (h : Env w pn pw) : Calls Tryz.prog 118 #[dsk n b, str t, .bool false] w fun e w' => e = .returned (oc pn pw (n, b, .no)) ∧ Below w.heap.size w w' := by
  have HE := Lib.hid (h.keep (two_below w (.cells #[.int .i64 n, .int .i64 b] 24) (.cells #[.int .i64 0, .int .i64 0, .string ⟨#[]⟩, .nilIface] 60)))
  have c0 := HE.out.no
  have BF := Lib.hid (box_facts w n b (.int .i64 0) (.int .i64 0) (.string ⟨#[]⟩) .nilIface _ rfl)
  clear h
  obtain ⟨R, hR⟩ : ∃ R, R = ((n, b, Rp.no) : Int × Int × Rp) := ⟨_, rfl⟩
  have HF := Lib.hid (fail_no n b pn pw)
  rw [← hR] at HF ⊢
  clear hR
  go_enter Tryz.func118, Tryz.ntmps118
  go_wp2_with fail
  refine (HF.out _).mono ?_
  rintro e w1 ⟨rfl, hb⟩
  obtain ⟨_, _, B4, hb1⟩ := BF.out w1 (hb.mono (by simp))
  have HB4 := Lib.hid B4
  have HB1 := Lib.hid hb1
  clear hb hb1 B4 c0
  obtain ⟨n', b', rp⟩ := R
  obtain ⟨y0, y1, y2, y3, e0, e1, e2, e3⟩ := HB4.out.all
  have ef := HB4.out.free
  cases rp <;> (dsimp only [oc, rpE, rpS]; go_wp2; refine bodyPost_ret (ret_set4 rfl _ _ (w.heap.size + 1) _ _ _ _ rfl HB4.out) rfl ?_; exact ⟨rfl, set4_below HB1.out (by omega) _ _ _ _⟩)

/-- 'say' with a text that may be none. -/
theorem say_any (n b : Int) (o : Option Tx) (pn pw : Addr) (w : World) (h : Env w pn pw) : Calls Tryz.prog 118 #[dsk n b, str (o.getD []), .bool o.isSome] w fun e w' => e = .returned (oc pn pw (sayF n b o)) ∧ Below w.heap.size w w' := by
  cases o with
  | none => exact say_no n b [] pn pw w h
  | some t => exact say_yes n b t pn pw w

theorem okq_num {m b : Int} (hm : Num m) (hb : Bas b) : okq m b = true := decide_eq_true ⟨hm, hb⟩
theorem become_no (n b m : Int) (pn pw : Addr) (w : World) (h : Env w pn pw) : Calls Tryz.prog 112 #[dsk n b, .int .i64 m, .bool false] w fun e w' => e = .returned (oc pn pw (n, b, .no)) ∧ Below w.heap.size w w' := by
  have HE := Lib.hid (h.keep (two_below w (.cells #[.int .i64 n, .int .i64 b] 24) (.cells #[.int .i64 0, .int .i64 0, .string ⟨#[]⟩, .nilIface] 60)))
  have c0 := HE.out.no
  have BF := Lib.hid (box_facts w n b (.int .i64 0) (.int .i64 0) (.string ⟨#[]⟩) .nilIface _ rfl)
  clear h
  obtain ⟨R, hR⟩ : ∃ R, R = ((n, b, Rp.no) : Int × Int × Rp) := ⟨_, rfl⟩
  have HF := Lib.hid (fail_no n b pn pw)
  rw [← hR] at HF ⊢
  clear hR
  go_enter Tryz.func112, Tryz.ntmps112
  go_wp2_with fail
  refine (HF.out _).mono ?_
  rintro e w1 ⟨rfl, hb⟩
  obtain ⟨_, _, B4, hb1⟩ := BF.out w1 (hb.mono (by simp))
  have HB4 := Lib.hid B4
  have HB1 := Lib.hid hb1
  clear hb hb1 B4 c0
  obtain ⟨n', b', rp⟩ := R
  obtain ⟨y0, y1, y2, y3, e0, e1, e2, e3⟩ := HB4.out.all
  have ef := HB4.out.free
  cases rp <;> (dsimp only [oc, rpE, rpS]; go_wp2; refine bodyPost_ret (ret_set4 rfl _ _ (w.heap.size + 1) _ _ _ _ rfl HB4.out) rfl ?_; exact ⟨rfl, set4_below HB1.out (by omega) _ _ _ _⟩)

theorem txt_ne {n b : Int} (hn : Num n) (hb : Bas b) : ¬ RText n b = [] := by
  intro e
  have h1 : RText n b = txt (dgs b n) := if_pos ⟨hn, hb⟩
  rw [h1] at e
  have h2 := congrArg List.length e
  rw [txt_len] at h2
  exact dgs_ne b n (List.eq_nil_of_length_eq_zero (by simpa using h2))
theorem become_yes (n b m : Int) (hm : Num m) (hB : Bas b) (pn pw : Addr) (w : World) (h : Env w pn pw) : Calls Tryz.prog 112 #[dsk n b, .int .i64 m, .bool true] w fun e w' => e = .returned (oc pn pw (m, b, .say (RText m b))) ∧ Below w.heap.size w w' := by
  have BF := Lib.hid (box_facts w m b (.int .i64 0) (.int .i64 0) (.string ⟨#[]⟩) .nilIface _ rfl)
  have HT := Lib.hid (fun w' => impl_NumberText m b w')
  rw [okq_num hm hB] at HT
  have ho : orD (RText m b) = RText m b := if_neg (txt_ne hm hB)
  have HS := Lib.hid (fun w' => say_yes m b (RText m b) pn pw w')
  rw [ho] at HS
  obtain ⟨T, hT⟩ : ∃ T, T = RText m b := ⟨_, rfl⟩
  rw [← hT] at HT HS ⊢
  have HS' := Lib.hid (show ∀ w', Calls Tryz.prog 118 #[dsk m b, str T, .bool true] w' fun e w'' => e = .returned (.agg #[.int .i64 m, .int .i64 b, str T, .nilIface]) ∧ Below w'.heap.size w' w'' from HS.out)
  clear hT h ho hm hB HS
  go_enter Tryz.func112, Tryz.ntmps112
  go_wp2
  go_region_with (first
    | (go_at_call 28; refine (HT.out _).mono ?_; rintro e w1 ⟨rfl, hb⟩; obtain ⟨k0, k1, B4, hb1⟩ := BF.out w1 ((Below.refl (w.heap.size + 2) _).drew.trans (hb.mono (by simp))); have HB1 := Lib.hid hb1; have HB4 := Lib.hid B4; have HBB := Lib.hid hb; clear hb hb1 B4)
    | (go_at_call 118; refine (HS'.out _).mono ?_; rintro e w2 ⟨rfl, hb⟩; have HB2 := Lib.hid (HB1.out.trans (hb.mono HB1.out.size)); have HB5 := Lib.hid (HB4.out.keep hb (by have := HBB.out.size; simp at this; omega)); obtain ⟨y0, y1, y2, y3, e0, e1, e2, e3⟩ := HB5.out.all; have ef := HB5.out.free; clear hb))
  all_goals
    go_wp2
    refine bodyPost_ret (v := .agg #[.int .i64 m, .int .i64 b, str T, .nilIface]) (ret_set4 rfl _ _ (w.heap.size + 1) _ _ _ _ rfl HB5.out) rfl ?_
    exact ⟨rfl, set4_below HB2.out (by omega) _ _ _ _⟩

/-- 'become' with a number that may be none. -/
theorem become_any (n b : Int) (o : Option Int) (ho : ∀ m, o = some m → Num m) (hB : Bas b) (pn pw : Addr) (w : World) (h : Env w pn pw) :
    Calls Tryz.prog 112 #[dsk n b, .int .i64 (o.getD 0), .bool o.isSome] w fun e w' => e = .returned (oc pn pw (becF n b o)) ∧ Below w.heap.size w w' := by
  cases o with
  | none => exact become_no n b 0 pn pw w h
  | some m => exact become_yes n b m (ho m rfl) hB pn pw w h

theorem oc_form (pn pw : Addr) (r : Int × Int × Rp) : ∃ n' b' S ev, oc pn pw r = .agg #[.int .i64 n', .int .i64 b', str S, ev] ∧ ev.oneCell' = true := by
  obtain ⟨n', b', rp⟩ := r
  refine ⟨n', b', rpS rp, rpE pn pw rp, rfl, ?_⟩
  cases rp <;> rfl

theorem grow_below (w : World) (k : Nat) (os : Array Obj) : Below w.heap.size w (Go.Sort.grow (w.drewN k) os) := by
  refine ⟨rfl, rfl, rfl, ?_, fun i hi => ?_⟩
  · show w.heap.size ≤ (w.heap ++ os).size
    simp
  · show (w.heap ++ os)[i]? = w.heap[i]?
    rw [Array.getElem?_append_left hi]
theorem itoa_any (n : Int) (h0 : 0 ≤ n) (h1 : n ≤ 1000000000000000000) (pn pw : Addr) (w : World) (h : Env w pn pw) : Calls Tryz.prog 175 #[.int .i64 n] w fun e w' => e = .returned (str (Lib.itoa n)) ∧ Below w.heap.size w w' := by
  refine (Tryz.strconv_Itoa n (by omega) (by omega) w h.tab).mono ?_
  rintro e w' ⟨rfl, k, os, rfl⟩
  exact ⟨rfl, grow_below w k os⟩

theorem count_any (n b : Int) (o : Option Int) (ho : Pos o) (pn pw : Addr) (w : World) (h : Env w pn pw) :
    Calls Tryz.prog 121 #[dsk n b, .int .i64 (o.getD 0), .bool o.isSome] w fun e w' => e = .returned (oc pn pw (numR n b o)) ∧ Below w.heap.size w w' := by
  have HI := Lib.hid (show ∀ w', Env w' pn pw → Calls Tryz.prog 175 #[.int .i64 (o.getD 0)] w' fun e w'' => e = .returned (str (Lib.itoa (o.getD 0))) ∧ Below w'.heap.size w' w'' from fun w' hw => by
    cases o with
    | none => exact itoa_any 0 (by omega) (by omega) pn pw w' hw
    | some m => exact itoa_any m (ho m rfl).1 (ho m rfl).2 pn pw w' hw)
  have HC := Lib.hid (show ∀ w', Env w' pn pw → Calls Tryz.prog 118 #[dsk n b, str (Lib.itoa (o.getD 0)), .bool o.isSome] w' fun e w'' => e = .returned (oc pn pw (numR n b o)) ∧ Below w'.heap.size w' w'' from fun w' hw => by
    cases o with
    | none => exact say_no n b _ pn pw w' hw
    | some m => exact say_yes n b _ pn pw w')
  have HE := Lib.hid (fun w' (hb : Below w.heap.size w w') => h.keep hb)
  have BF := Lib.hid (box_facts w n b (.int .i64 0) (.int .i64 0) (.string ⟨#[]⟩) .nilIface _ rfl)
  obtain ⟨n', b', S, ev, hoc, hone⟩ := oc_form pn pw (numR n b o)
  rw [hoc] at HC ⊢
  have hst := fun W => run_store Tryz.prog W ⟨w.heap.size + 1, 3, none⟩ ev .plain hone
  obtain ⟨x, hx⟩ : ∃ x, x = o.getD 0 := ⟨_, rfl⟩
  obtain ⟨ok, hok⟩ : ∃ ok, ok = o.isSome := ⟨_, rfl⟩
  obtain ⟨T, hT⟩ : ∃ T, T = Lib.itoa (o.getD 0) := ⟨_, rfl⟩
  rw [← hT] at HI HC
  rw [← hx] at HI ⊢
  rw [← hok] at HC ⊢
  clear hx hok hT hoc hone h ho
  go_enter Tryz.func121, Tryz.ntmps121
  go_wp2
  go_region_with (first
    | (go_at_call 175; refine (HI.out _ (HE.out _ ((two_below w _ _).drew))).mono ?_; rintro e w1 ⟨rfl, hb⟩; obtain ⟨k0, k1, B4, hb1⟩ := BF.out w1 ((Below.refl (w.heap.size + 2) _).drew.trans (hb.mono (by simp))); have HB1 := Lib.hid hb1; have HB4 := Lib.hid B4; have HE1 := Lib.hid (HE.out _ hb1); have HLT := Lib.hid (show w.heap.size + 1 < w1.heap.size by have := hb.size; simp at this; omega); clear hb hb1 B4)
    | (go_at_call 118; refine (HC.out _ HE1.out).mono ?_; rintro e w2 ⟨rfl, hb⟩; have HB2 := Lib.hid (HB1.out.trans (hb.mono HB1.out.size)); have HB5 := Lib.hid (HB4.out.keep hb HLT.out); obtain ⟨y0, y1, y2, y3, e0, e1, e2, e3⟩ := HB5.out.all; have ef := HB5.out.free; clear hb))
  all_goals
    go_wp2
    refine bodyPost_ret (v := .agg #[.int .i64 n', .int .i64 b', str S, ev]) (ret_set4 rfl _ _ (w.heap.size + 1) _ _ _ _ rfl HB5.out) rfl ?_
    exact ⟨rfl, set4_below HB2.out (by omega) _ _ _ _⟩

end Go.Proofs.YtlbjeiaihenjkaaGreatDoor
