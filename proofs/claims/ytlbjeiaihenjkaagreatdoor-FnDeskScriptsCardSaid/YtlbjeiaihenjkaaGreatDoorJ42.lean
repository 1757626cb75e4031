/-
  Joint text of C1, C2: what each proves stands ahead of it.
-/
import Derived.Test.YtlbjeiaihenjkaaGreatDoorJ33
import Derived.Test.YtlbjeiaihenjkaaGreatDoorJ34
import Derived.Test.YtlbjeiaihenjkaaGreatDoorJ41
import Derived.Test.YtlbjeiaihenjkaaGreatDoorJ29
import Derived.Test.YtlbjeiaihenjkaaGreatDoorJ40
/- from C1: The program executes any line.  -/
namespace Go.Proofs.YtlbjeiaihenjkaaGreatDoor
open Go.RowKit
set_option linter.unusedVariables false
set_option linter.unusedSimpArgs false
set_option maxRecDepth 100000

theorem count_byte (S : Tx) (c : UInt8) : Lib.countB ⟨S.toArray⟩ ⟨#[c]⟩ = S.count c := Lib.count_one c S
theorem split_bytes (c : UInt8) (S : Tx) : (Lib.splitB ⟨#[c]⟩ 0 (Lib.countB ⟨S.toArray⟩ ⟨#[c]⟩) ⟨S.toArray⟩).map Value.string = (spl c S).map str := by
  have h1 := Lib.splitB_data ⟨#[c]⟩ 0 (Lib.countB ⟨S.toArray⟩ ⟨#[c]⟩) ⟨S.toArray⟩
  rw [count_byte] at h1 ⊢
  rw [show (⟨#[c]⟩ : ByteArray).data.toList = [c] from rfl, show (⟨S.toArray⟩ : ByteArray).data.toList = S from rfl] at h1
  have h2 := splitK_spA c S [] (by simp)
  rw [List.nil_append] at h2
  have h3 : (Lib.splitB ⟨#[c]⟩ 0 (S.count c) ⟨S.toArray⟩).map (fun z => z.data.toList) = spl c S := h1.trans h2
  rw [← h3, List.map_map]
  exact List.map_congr_left fun x _ => rfl
theorem split_any (c : UInt8) (S : Tx) (hS : S.length ≤ 1000000) (pn pw : Addr) (w : World) (h : Env w pn pw) :
    Calls Tryz.prog 58 #[str S, .string ⟨#[c]⟩] w fun e w' => ∃ g, e = .returned (.slice (some ⟨g, 0, none⟩) (spl c S).length (spl c S).length) ∧ (∀ j (hj : j < (spl c S).length), w'.cell? ⟨g, j, none⟩ = some (str (spl c S)[j])) ∧ w.heap.size ≤ g ∧ g < w'.heap.size ∧ Below w.heap.size w w' := by
  obtain ⟨m, hm⟩ := h.len
  have hc := Tryz.strings_Split ⟨S.toArray⟩ ⟨#[c]⟩ m w (by rw [ba_sz]; omega) hm (Nat.le_refl 1)
  rw [split_bytes, count_byte, ← spA_len c S []] at hc
  refine hc.mono ?_
  rintro e w' ⟨rfl, rfl⟩
  refine ⟨w.heap.size, rfl, fun j hj => ?_, Nat.le_refl _, by simp, alloc_belowD _ _⟩
  simp [go_sem, hj]

set_option maxHeartbeats 4000000 in
theorem execute_one (n b : Int) (S : Tx) (x : Tx) (hN : Num n) (hB : Bas b) (hS : S.length ≤ 1000000) (hsp : spl 32 S = [x]) (pn pw : Addr) (w : World) (h : Env w pn pw) :
    Calls Tryz.prog 37 #[dsk n b, str S] w fun e w' => e = .returned (oc pn pw (aloneF n b x)) ∧ Below w.heap.size w w' := by
  have HP := Lib.hid (fun w' hw => split_any 32 S hS pn pw w' hw)
  rw [hsp] at HP
  have HC := Lib.hid (fun w' (hw : Env w' pn pw) => executeAlone_any n b x hN hB pn pw w' hw)
  have HE := Lib.hid (fun w' (hb : Below w.heap.size w w') => h.keep hb)
  have BF := Lib.hid (box_facts w n b (.int .i64 0) (.int .i64 0) (.string ⟨#[]⟩) .nilIface _ rfl)
  have HE0 := Lib.hid (HE.out _ (two_below w (.cells #[.int .i64 n, .int .i64 b] 24) (.cells #[.int .i64 0, .int .i64 0, .string ⟨#[]⟩, .nilIface] 60)))
  obtain ⟨n', b', T, ev, hoc, hone⟩ := oc_form pn pw (aloneF n b x)
  rw [hoc] at HC ⊢
  have hst := fun W => run_store Tryz.prog W ⟨w.heap.size + 1, 3, none⟩ ev .plain hone
  clear hoc hone h
  go_enter Tryz.func37, Tryz.ntmps37
  go_wp2_with fail
  refine (HP.out _ HE0.out).mono ?_
  rintro e w1 ⟨g, rfl, hc, hg0, hg1, hb⟩
  obtain ⟨k0, k1, B4, hb1⟩ := BF.out w1 (hb.mono (by simp))
  have HB1 := Lib.hid hb1
  have HB4 := Lib.hid B4
  have HE1 := Lib.hid (HE.out _ hb1)
  have g0 := HE1.out.no
  have g1 := HE1.out.what
  have HLT := Lib.hid (show w.heap.size + 1 < w1.heap.size by have := hb.size; simp at this; omega)
  have c0 := hc 0 (by simp)
  simp only [List.getElem_cons_zero, List.getElem_cons_succ] at c0
  clear hb hb1 B4 hc
  go_wp2
  go_region_with (go_at_call 59; refine (HC.out _ (HE1.out.keep (Below.refl _ _).drew)).mono ?_; rintro e w2 ⟨rfl, hb⟩; replace hb := (Below.refl w1.heap.size w1).drew.trans hb; have HB2 := Lib.hid (HB1.out.trans (hb.mono HB1.out.size)); have HB5 := Lib.hid (HB4.out.keep hb HLT.out); obtain ⟨y0, y1, y2, y3, e0, e1, e2, e3⟩ := HB5.out.all; have ef := HB5.out.free; clear hb)
  all_goals
    go_wp2
    refine bodyPost_ret (v := .agg #[.int .i64 n', .int .i64 b', str T, ev]) (ret_set4 rfl _ _ (w.heap.size + 1) _ _ _ _ rfl HB5.out) rfl ?_
    exact ⟨rfl, set4_below HB2.out (by omega) _ _ _ _⟩
set_option maxHeartbeats 4000000 in
theorem execute_two (n b : Int) (S : Tx) (x y : Tx) (hN : Num n) (hB : Bas b) (hy : y.length ≤ 1000000) (hS : S.length ≤ 1000000) (hsp : spl 32 S = [x, y]) (pn pw : Addr) (w : World) (h : Env w pn pw) :
    Calls Tryz.prog 37 #[dsk n b, str S] w fun e w' => e = .returned (oc pn pw (withF n b x y)) ∧ Below w.heap.size w w' := by
  have HP := Lib.hid (fun w' hw => split_any 32 S hS pn pw w' hw)
  rw [hsp] at HP
  have HC := Lib.hid (fun w' (hw : Env w' pn pw) => executeWith_any n b x y hN hB hy pn pw w' hw)
  have HE := Lib.hid (fun w' (hb : Below w.heap.size w w') => h.keep hb)
  have BF := Lib.hid (box_facts w n b (.int .i64 0) (.int .i64 0) (.string ⟨#[]⟩) .nilIface _ rfl)
  have HE0 := Lib.hid (HE.out _ (two_below w (.cells #[.int .i64 n, .int .i64 b] 24) (.cells #[.int .i64 0, .int .i64 0, .string ⟨#[]⟩, .nilIface] 60)))
  obtain ⟨n', b', T, ev, hoc, hone⟩ := oc_form pn pw (withF n b x y)
  rw [hoc] at HC ⊢
  have hst := fun W => run_store Tryz.prog W ⟨w.heap.size + 1, 3, none⟩ ev .plain hone
  clear hoc hone h
  go_enter Tryz.func37, Tryz.ntmps37
  go_wp2_with fail
  refine (HP.out _ HE0.out).mono ?_
  rintro e w1 ⟨g, rfl, hc, hg0, hg1, hb⟩
  obtain ⟨k0, k1, B4, hb1⟩ := BF.out w1 (hb.mono (by simp))
  have HB1 := Lib.hid hb1
  have HB4 := Lib.hid B4
  have HE1 := Lib.hid (HE.out _ hb1)
  have g0 := HE1.out.no
  have g1 := HE1.out.what
  have HLT := Lib.hid (show w.heap.size + 1 < w1.heap.size by have := hb.size; simp at this; omega)
  have c0 := hc 0 (by simp)
  simp only [List.getElem_cons_zero, List.getElem_cons_succ] at c0
  have c1 := hc 1 (by simp)
  simp only [List.getElem_cons_zero, List.getElem_cons_succ] at c1
  clear hb hb1 B4 hc
  go_wp2
  go_region_with (go_at_call 60; refine (HC.out _ (HE1.out.keep (Below.refl _ _).drew)).mono ?_; rintro e w2 ⟨rfl, hb⟩; replace hb := (Below.refl w1.heap.size w1).drew.trans hb; have HB2 := Lib.hid (HB1.out.trans (hb.mono HB1.out.size)); have HB5 := Lib.hid (HB4.out.keep hb HLT.out); obtain ⟨y0, y1, y2, y3, e0, e1, e2, e3⟩ := HB5.out.all; have ef := HB5.out.free; clear hb)
  all_goals
    go_wp2
    refine bodyPost_ret (v := .agg #[.int .i64 n', .int .i64 b', str T, ev]) (ret_set4 rfl _ _ (w.heap.size + 1) _ _ _ _ rfl HB5.out) rfl ?_
    exact ⟨rfl, set4_below HB2.out (by omega) _ _ _ _⟩
set_option maxHeartbeats 4000000 in
theorem execute_many (n b : Int) (S : Tx)  (hS : S.length ≤ 1000000) (h1 : (spl 32 S).length ≠ 1) (h2 : (spl 32 S).length ≠ 2) (pn pw : Addr) (w : World) (h : Env w pn pw) :
    Calls Tryz.prog 37 #[dsk n b, str S] w fun e w' => e = .returned (oc pn pw (n, b, Rp.what)) ∧ Below w.heap.size w w' := by
  have HP := Lib.hid (fun w' hw => split_any 32 S hS pn pw w' hw)
  obtain ⟨N, hN⟩ : ∃ N, N = (spl 32 S).length := ⟨_, rfl⟩
  replace HP := Lib.hid (show ∀ w', Env w' pn pw → Calls Tryz.prog 58 #[str S, .string ⟨#[32]⟩] w' fun e w'' => ∃ g, e = .returned (.slice (some ⟨g, 0, none⟩) N N) ∧ True ∧ w'.heap.size ≤ g ∧ g < w''.heap.size ∧ Below w'.heap.size w' w'' from fun w' hw => (HP.out w' hw).mono (by rintro e w'' ⟨g, rfl, _, hh⟩; exact ⟨g, by rw [hN], trivial, hh⟩))
  have q1 : ¬ ((N : Int) = 1) := by omega
  have q2 : ¬ ((N : Int) = 2) := by omega
  clear hN h1 h2
  have HC := Lib.hid (fun w' (hw : Env w' pn pw) => fail_what n b pn pw w')
  have HE := Lib.hid (fun w' (hb : Below w.heap.size w w') => h.keep hb)
  have BF := Lib.hid (box_facts w n b (.int .i64 0) (.int .i64 0) (.string ⟨#[]⟩) .nilIface _ rfl)
  have HE0 := Lib.hid (HE.out _ (two_below w (.cells #[.int .i64 n, .int .i64 b] 24) (.cells #[.int .i64 0, .int .i64 0, .string ⟨#[]⟩, .nilIface] 60)))
  obtain ⟨n', b', T, ev, hoc, hone⟩ := oc_form pn pw (n, b, Rp.what)
  rw [hoc] at HC ⊢
  have hst := fun W => run_store Tryz.prog W ⟨w.heap.size + 1, 3, none⟩ ev .plain hone
  clear hoc hone h
  go_enter Tryz.func37, Tryz.ntmps37
  go_wp2_with fail
  refine (HP.out _ HE0.out).mono ?_
  rintro e w1 ⟨g, rfl, hc, hg0, hg1, hb⟩
  obtain ⟨k0, k1, B4, hb1⟩ := BF.out w1 (hb.mono (by simp))
  have HB1 := Lib.hid hb1
  have HB4 := Lib.hid B4
  have HE1 := Lib.hid (HE.out _ hb1)
  have g0 := HE1.out.no
  have g1 := HE1.out.what
  have HLT := Lib.hid (show w.heap.size + 1 < w1.heap.size by have := hb.size; simp at this; omega)
  clear hb hb1 B4 hc
  go_wp2_with fail
  refine (HC.out _ HE1.out).mono ?_
  rintro e w2 ⟨rfl, hb⟩
  have HB2 := Lib.hid (HB1.out.trans (hb.mono HB1.out.size))
  have HB5 := Lib.hid (HB4.out.keep hb HLT.out)
  clear hb k0 k1 g0 g1
  obtain ⟨y0, y1, y2, y3, e0, e1, e2, e3⟩ := HB5.out.all
  have ef := HB5.out.free
  go_wp2
  refine bodyPost_ret (v := .agg #[.int .i64 n', .int .i64 b', str T, ev]) (ret_set4 rfl _ _ (w.heap.size + 1) _ _ _ _ rfl HB5.out) rfl ?_
  exact ⟨rfl, set4_below HB2.out (by omega) _ _ _ _⟩
theorem execute_any (n b : Int) (S : Tx) (hN : Num n) (hB : Bas b) (hS : S.length ≤ 1000000) (pn pw : Addr) (w : World) (h : Env w pn pw) :
    Calls Tryz.prog 37 #[dsk n b, str S] w fun e w' => e = .returned (oc pn pw (lineF n b (spl 32 S))) ∧ Below w.heap.size w w' := by
  match hq : spl 32 S with
  | [] => exact execute_many n b S hS (by rw [hq]; simp) (by rw [hq]; simp) pn pw w h
  | [x] => exact execute_one n b S x hN hB hS hq pn pw w h
  | [x, y] => 
    exact execute_two n b S x y hN hB (by
      have := spA_mem 32 S [] y (by rw [show spA 32 [] S = [x, y] from hq]; simp)
      simp at this
      omega) hS hq pn pw w h
  | x :: y :: z :: ws => exact execute_many n b S hS (by rw [hq]; simp) (by rw [hq]; simp) pn pw w h

end Go.Proofs.YtlbjeiaihenjkaaGreatDoor

/- from C2: The program's line of the desk.  -/
namespace Go.Proofs.YtlbjeiaihenjkaaGreatDoor
open Go.RowKit
set_option linter.unusedVariables false
set_option linter.unusedSimpArgs false
set_option maxRecDepth 100000

theorem has_byte (c : UInt8) (l : Tx) : decide (0 ≤ Lib.indexByte l c) = decide (1 ≤ l.count c) := by
  have h := Lib.indexByte_ge l c
  rcases Int.lt_or_le (Lib.indexByte l c) 0 with h0 | h0
  · have h1 := Lib.indexByte_none (l := l) (c := c) (by omega)
    have h2 : c ∉ l := fun hm => by
      obtain ⟨k, hk, e⟩ := List.getElem_of_mem hm
      exact h1 k (by rw [List.getElem?_eq_getElem hk, e])
    rw [List.count_eq_zero.2 h2, decide_eq_false (by omega)]
    rfl
  · have h1 := (Lib.indexByte_some (l := l) (c := c) (o := (Lib.indexByte l c).toNat) (by omega)).1
    have h2 : c ∈ l := List.mem_of_getElem? h1
    have := List.count_pos_iff.2 h2
    rw [decide_eq_true h0, decide_eq_true (show 1 ≤ l.count c by omega)]
theorem hasC_any (c : UInt8) (S : Tx) (w : World) : Calls Tryz.prog 36 #[str S, .string ⟨#[c]⟩] w fun e w' => e = .returned (.bool (decide (1 ≤ S.count c))) ∧ w' = w := by
  have h := Tryz.strings_Contains_one ⟨S.toArray⟩ c w
  rw [ba_of, has_byte] at h
  exact h

def dlOk (n b : Int) (S : Tx) : Prop := Num n ∧ Bas b ∧ S.length ≤ 3000 ∧ S.count 10 = 0
instance (n b : Int) (S : Tx) : Decidable (dlOk n b S) := by unfold dlOk; exact inferInstance
/-- What a line of a desk gives. -/
def dlF (n b : Int) (S : Tx) : Int × Int × Tx × Bool := if dlOk n b S then ((lineF n b (spl 32 S)).1, (lineF n b (spl 32 S)).2.1, (lineF n b (spl 32 S)).2.2.txt, true) else (0, 0, [], false)
abbrev dlV (r : Int × Int × Tx × Bool) : Value := .tuple #[dsk r.1 r.2.1, str r.2.2.1, .bool r.2.2.2]

theorem ret_dk3 {fn : Func} {p u t : Tmp} (h : fn.results = #[.cell p 24, .tmp u, .tmp t]) (tmps : Array Value) (w : World) (s : Nat) (n b : Int) (hp : tmps.getD p undef = .pointer (some ⟨s, 0, none⟩)) (hB : Box2 w s) :
    (results fn tmps).run Tryz.prog (set2 w s (.int .i64 n) (.int .i64 b)) = .ok (.tuple #[dsk n b, tmps.getD u undef, tmps.getD t undef]) (set2 w s (.int .i64 n) (.int .i64 b)) := by
  obtain ⟨h0, h1⟩ := set2_cells hB (.int .i64 n) (.int .i64 b)
  have key : ∀ W : World, W.cell? ⟨s, 0, none⟩ = some (.int .i64 n) → W.cell? ⟨s, 1, none⟩ = some (.int .i64 b) → (results fn tmps).run Tryz.prog W = .ok (.tuple #[dsk n b, tmps.getD u undef, tmps.getD t undef]) W := fun W h0 h1 =>
    results_three h tmps W s _ hp (load_dk W s n b h0 h1)
  exact key _ h0 h1

theorem impl_DeskLine_ok (n b : Int) (S : Tx) (h1 : Num n) (h2 : Bas b) (h3 : S.length ≤ 3000) (h4 : S.count 10 = 0) (pn pw : Addr) (w : World) (h : Env w pn pw) :
    Calls Tryz.prog 11 #[dsk n b, str S] w fun e w' => e = .returned (dlV ((lineF n b (spl 32 S)).1, (lineF n b (spl 32 S)).2.1, (lineF n b (spl 32 S)).2.2.txt, true)) ∧ Below w.heap.size w w' := by
  have HI := Lib.hid (impl_IsDesk n b)
  rw [decide_eq_true (show Num n ∧ Bas b from ⟨h1, h2⟩)] at HI
  have HK := Lib.hid (hasC_any 10 S)
  rw [h4, decide_eq_false (show ¬ 1 ≤ 0 by omega)] at HK
  have HX := Lib.hid (fun w' hw => execute_any n b S h1 h2 (by omega) pn pw w' hw)
  have HE := Lib.hid (fun w' (hb : Below w.heap.size w w') => h.keep hb)
  obtain ⟨n', b', rp, hR⟩ : ∃ n' b' rp, lineF n b (spl 32 S) = (n', b', rp) := ⟨_, _, _, rfl⟩
  rw [hR] at HX ⊢
  have HS := Lib.hid (fun w' hw => said_any pn pw n' b' rp w' hw)
  obtain ⟨ev, hev⟩ : ∃ ev, ev = rpE pn pw rp := ⟨_, rfl⟩
  obtain ⟨T, hT⟩ : ∃ T, T = rpS rp := ⟨_, rfl⟩
  have hone : ev.oneCell' = true := by rw [hev]; cases rp <;> rfl
  obtain ⟨Y, hY⟩ : ∃ Y, Y = rp.txt := ⟨_, rfl⟩
  simp only [oc] at HX HS
  rw [← hev, ← hT] at HX HS
  rw [← hY] at HS ⊢
  clear hev hT hY
  have hst := fun W q => run_store Tryz.prog W ⟨q, 3, none⟩ ev .plain hone
  clear hone
  have L3 := Lib.hid h3
  have q3 : ¬ (3000 < (S.length : Int)) := by omega
  clear h1 h2 h4 hR h h3
  dsimp only [dlV]
  go_enter Tryz.func11, Tryz.ntmps11
  have BF := Lib.hid (cs_facts w n b)
  obtain ⟨v0, hv0⟩ : ∃ v0, v0 = (w.alloc (.cells #[.int .i64 n, .int .i64 b] 24)).alloc (.cells #[.int .i64 0, .int .i64 0] 24) := ⟨_, rfl⟩
  go_wp2_with fail
  rw [← hv0] at BF ⊢
  clear hv0
  refine (HI.out _).mono ?_
  rintro e w1 ⟨rfl, hb⟩
  have HA1 := Lib.hid (show Below (w.heap.size + 2) v0 w1 from hb.mono (by have := (BF.out v0 (Below.refl _ _)).2.2.2.2; omega))
  obtain ⟨k0, k1, B2, hb1, hs1⟩ := BF.out w1 HA1.out
  have HB1 := Lib.hid hb1
  have HE1 := Lib.hid (HE.out _ hb1)
  have HS1 := Lib.hid hs1
  clear hb B2 hb1 hs1
  go_wp2_with fail
  refine (HK.out _).mono ?_
  rintro e w2 ⟨rfl, rfl⟩
  go_wp2_with fail
  refine (HX.out _ HE1.out).mono ?_
  rintro e w3 ⟨rfl, hb⟩
  have HA3 := Lib.hid (HA1.out.trans (hb.mono HS1.out))
  clear hb k0 k1
  go_wp2_with fail
  obtain ⟨v3, hv3⟩ : ∃ v3, v3 = w3.alloc (.cells #[.int .i64 n', .int .i64 b', .string ⟨T.toArray⟩, ev] 60) := ⟨_, rfl⟩
  rw [← hv3]
  have HV := Lib.hid (show ∀ w', Below (w3.heap.size + 1) v3 w' → (w'.cell? ⟨w3.heap.size, 0, none⟩ = some (.int .i64 n') ∧ w'.cell? ⟨w3.heap.size, 1, none⟩ = some (.int .i64 b') ∧ w'.cell? ⟨w3.heap.size, 2, none⟩ = some (.string ⟨T.toArray⟩) ∧ w'.cell? ⟨w3.heap.size, 3, none⟩ = some ev) ∧ Below (w.heap.size + 2) v0 w' from fun w' hb => by
    have hA := (HA3.out.trans ((alloc_belowD w3 (.cells #[.int .i64 n', .int .i64 b', .string ⟨T.toArray⟩, ev] 60)).mono (Nat.le_trans (BF.out _ HA3.out).2.2.2.2 (Nat.le_refl _))))
    rw [← hv3] at hA
    have c := fun (j : Nat) => hb.cell (p := ⟨w3.heap.size, j, none⟩) (by simp)
    refine ⟨⟨(c 0).trans ?_, (c 1).trans ?_, (c 2).trans ?_, (c 3).trans ?_⟩, hA.trans (hb.mono (by have := (BF.out _ HA3.out).2.2.2.2; omega))⟩ <;> (rw [hv3]; simp [go_sem]))
  have HZ := Lib.hid (show v3.heap.size = w3.heap.size + 1 by rw [hv3]; simp)
  obtain ⟨⟨d0, d1, d2, d3⟩, hA⟩ := HV.out v3 (Below.refl _ _)
  have HEv := Lib.hid (HE.out _ (BF.out _ hA).2.2.2.1)
  clear hA hv3
  go_region_with (go_at_call 38; refine (HS.out _ (HEv.out.keep (Below.refl _ _).drew)).mono ?_; rintro e w4 ⟨rfl, hb⟩; replace hb := (Below.refl v3.heap.size v3).drew.trans hb; obtain ⟨⟨f0, f1, f2, f3⟩, hA⟩ := HV.out w4 (hb.mono (Nat.le_of_eq HZ.out.symm)); obtain ⟨_, _, B2, hb2, _⟩ := BF.out w4 hA; have HB2 := Lib.hid hb2; have HX2 := Lib.hid B2; obtain ⟨y0, e0⟩ := B2.cell 0 (by omega); obtain ⟨y1, e1⟩ := B2.cell 1 (by omega); have ef := B2.free; clear hb hA hb2 B2)
  all_goals
    go_wp2
    refine bodyPost_ret (ret_dk3 rfl _ _ (w.heap.size + 1) _ _ rfl HX2.out) rfl ?_
    exact ⟨rfl, set2_below HB2.out (by omega) _ _⟩

theorem ret_new3 {fn : Func} {p u t : Tmp} (h : fn.results = #[.cell p 24, .tmp u, .tmp t]) (tmps : Array Value) (w : World) (s : Nat) (n b : Int) (hp : tmps.getD p undef = .pointer (some ⟨s, 0, none⟩)) (h0 : w.cell? ⟨s, 0, none⟩ = some (.int .i64 n)) (h1 : w.cell? ⟨s, 1, none⟩ = some (.int .i64 b)) :
    (results fn tmps).run Tryz.prog w = .ok (.tuple #[dsk n b, tmps.getD u undef, tmps.getD t undef]) w := results_three h tmps w s _ hp (load_dk w s n b h0 h1)

theorem impl_DeskLine_bad (n b : Int) (S : Tx) (h1 : ¬ (Num n ∧ Bas b)) (w : World) :
    Calls Tryz.prog 11 #[dsk n b, str S] w fun e w' => e = .returned (dlV (0, 0, [], false)) ∧ Below w.heap.size w w' := by
  have HI := Lib.hid (impl_IsDesk n b)
  rw [decide_eq_false h1] at HI
  clear h1
  dsimp only [dlV]
  go_enter Tryz.func11, Tryz.ntmps11
  have BF := Lib.hid (cs_facts w n b)
  obtain ⟨v0, hv0⟩ : ∃ v0, v0 = (w.alloc (.cells #[.int .i64 n, .int .i64 b] 24)).alloc (.cells #[.int .i64 0, .int .i64 0] 24) := ⟨_, rfl⟩
  go_wp2_with fail
  rw [← hv0] at BF ⊢
  clear hv0
  refine (HI.out _).mono ?_
  rintro e w1 ⟨rfl, hb⟩
  obtain ⟨k0, k1, B2, hb1, hs1⟩ := BF.out w1 (hb.mono (by have := (BF.out v0 (Below.refl _ _)).2.2.2.2; omega))
  have HB1 := Lib.hid hb1
  have HX2 := Lib.hid B2
  clear hb hb1 hs1
  obtain ⟨y0, e0⟩ := B2.cell 0 (by omega)
  obtain ⟨y1, e1⟩ := B2.cell 1 (by omega)
  have ef := B2.free
  clear B2
  go_wp2
  refine bodyPost_ret (ret_dk3 rfl _ _ (w.heap.size + 1) _ _ rfl HX2.out) rfl ?_
  exact ⟨rfl, set2_below HB1.out (by omega) _ _⟩
theorem impl_DeskLine_long (n b : Int) (S : Tx) (h1 : Num n ∧ Bas b) (h2 : ¬ S.length ≤ 3000) (w : World) :
    Calls Tryz.prog 11 #[dsk n b, str S] w fun e w' => e = .returned (dlV (0, 0, [], false)) ∧ Below w.heap.size w w' := by
  have HI := Lib.hid (impl_IsDesk n b)
  rw [decide_eq_true h1] at HI
  have q3 : 3000 < (S.length : Int) := by omega
  clear h1 h2
  dsimp only [dlV]
  go_enter Tryz.func11, Tryz.ntmps11
  have BF := Lib.hid (cs_facts w n b)
  obtain ⟨v0, hv0⟩ : ∃ v0, v0 = (w.alloc (.cells #[.int .i64 n, .int .i64 b] 24)).alloc (.cells #[.int .i64 0, .int .i64 0] 24) := ⟨_, rfl⟩
  go_wp2_with fail
  rw [← hv0] at BF ⊢
  clear hv0
  refine (HI.out _).mono ?_
  rintro e w1 ⟨rfl, hb⟩
  obtain ⟨k0, k1, B2, hb1, hs1⟩ := BF.out w1 (hb.mono (by have := (BF.out v0 (Below.refl _ _)).2.2.2.2; omega))
  have HB1 := Lib.hid hb1
  have HX2 := Lib.hid B2
  clear hb hb1 hs1
  obtain ⟨y0, e0⟩ := B2.cell 0 (by omega)
  obtain ⟨y1, e1⟩ := B2.cell 1 (by omega)
  have ef := B2.free
  clear B2
  go_wp2
  refine bodyPost_ret (ret_dk3 rfl _ _ (w.heap.size + 1) _ _ rfl HX2.out) rfl ?_
  exact ⟨rfl, set2_below HB1.out (by omega) _ _⟩
theorem impl_DeskLine_nl (n b : Int) (S : Tx) (h1 : Num n ∧ Bas b) (h3 : S.length ≤ 3000) (h4 : 1 ≤ S.count 10) (w : World) :
    Calls Tryz.prog 11 #[dsk n b, str S] w fun e w' => e = .returned (dlV (0, 0, [], false)) ∧ Below w.heap.size w w' := by
  have HI := Lib.hid (impl_IsDesk n b)
  rw [decide_eq_true h1] at HI
  have HK := Lib.hid (hasC_any 10 S)
  rw [decide_eq_true h4] at HK
  have L3 := Lib.hid h3
  have q3 : ¬ (3000 < (S.length : Int)) := by omega
  clear h1 h4 h3
  dsimp only [dlV]
  go_enter Tryz.func11, Tryz.ntmps11
  have BF := Lib.hid (cs_facts w n b)
  obtain ⟨v0, hv0⟩ : ∃ v0, v0 = (w.alloc (.cells #[.int .i64 n, .int .i64 b] 24)).alloc (.cells #[.int .i64 0, .int .i64 0] 24) := ⟨_, rfl⟩
  go_wp2_with fail
  rw [← hv0] at BF ⊢
  clear hv0
  refine (HI.out _).mono ?_
  rintro e w1 ⟨rfl, hb⟩
  obtain ⟨k0, k1, B2, hb1, hs1⟩ := BF.out w1 (hb.mono (by have := (BF.out v0 (Below.refl _ _)).2.2.2.2; omega))
  have HB1 := Lib.hid hb1
  have HX2 := Lib.hid B2
  clear hb hb1 hs1
  obtain ⟨y0, e0⟩ := B2.cell 0 (by omega)
  obtain ⟨y1, e1⟩ := B2.cell 1 (by omega)
  have ef := B2.free
  clear B2
  go_wp2_with fail
  refine (HK.out _).mono ?_
  rintro e w2 ⟨rfl, rfl⟩
  go_wp2
  refine bodyPost_ret (ret_dk3 rfl _ _ (w.heap.size + 1) _ _ rfl HX2.out) rfl ?_
  exact ⟨rfl, set2_below HB1.out (by omega) _ _⟩
theorem impl_DeskLine (n b : Int) (S : Tx) (pn pw : Addr) (w : World) (h : Env w pn pw) :
    Calls Tryz.prog 11 #[dsk n b, str S] w fun e w' => e = .returned (dlV (dlF n b S)) ∧ Below w.heap.size w w' := by
  unfold dlF
  by_cases h1 : Num n ∧ Bas b
  · by_cases h2 : S.length ≤ 3000
    · by_cases h3 : S.count 10 = 0
      · rw [if_pos (show dlOk n b S from ⟨h1.1, h1.2, h2, h3⟩)]
        exact impl_DeskLine_ok n b S h1.1 h1.2 h2 h3 pn pw w h
      · rw [if_neg (fun hh : dlOk n b S => h3 hh.2.2.2)]
        exact impl_DeskLine_nl n b S h1 h2 (by omega) w
    · rw [if_neg (fun hh : dlOk n b S => h2 hh.2.2.1)]
      exact impl_DeskLine_long n b S h1 h2 w
  · rw [if_neg (fun hh : dlOk n b S => h1 ⟨hh.1, hh.2.1⟩)]
    exact impl_DeskLine_bad n b S h1 w

end Go.Proofs.YtlbjeiaihenjkaaGreatDoor
