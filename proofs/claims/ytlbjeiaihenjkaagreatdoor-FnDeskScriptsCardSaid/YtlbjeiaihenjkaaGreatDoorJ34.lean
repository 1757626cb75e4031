/-
  Joint text of CH: what each proves stands ahead of it.
-/
import Derived.Test.YtlbjeiaihenjkaaGreatDoorJ31
/- from CH: Lines of one word: the program.  -/
namespace Go.Proofs.YtlbjeiaihenjkaaGreatDoor
open Go.RowKit
set_option linter.unusedVariables false
set_option linter.unusedSimpArgs false
set_option maxRecDepth 100000

theorem happy_ok {n b : Int} (hN : Num n) (hB : Bas b) : OKH n b = true := by unfold OKH; simp [hN, hB]
theorem happy_val {n b : Int} (hN : Num n) (hB : Bas b) : V_IsHappy n b = hap b.toNat n.toNat := by unfold V_IsHappy; rw [happy_ok hN hB]; rfl
set_option maxHeartbeats 4000000 in
theorem alone_reverse (n b : Int) (x : Tx) (hN : Num n) (hB : Bas b)  (hx : x = [114, 101, 118, 101, 114, 115, 101]) (pn pw : Addr) (w : World) (h : Env w pn pw) :
    Calls Tryz.prog 59 #[dsk n b, str x] w fun e w' => e = .returned (oc pn pw (becF n b (askF RReverseNumber n b))) ∧ Below w.heap.size w w' := by
  have q0 : (x == [114, 101, 118, 101, 114, 115, 101]) = true := by rw [hx]; rfl
  clear  hx
  have HF := Lib.hid (fun w' => impl_ReverseNumber n b w')
  have HC := Lib.hid (fun w' (hw : Env w' pn pw) => become_any n b (askF RReverseNumber n b) (fun m hm => rev_rng hm) hB pn pw w' hw)
  have HE := Lib.hid (fun w' (hb : Below w.heap.size w w') => h.keep hb)
  have BF := Lib.hid (box_facts w n b (.int .i64 0) (.int .i64 0) (.string ⟨#[]⟩) .nilIface _ rfl)
  obtain ⟨n', b', S, ev, hoc, hone⟩ := oc_form pn pw (becF n b (askF RReverseNumber n b))
  rw [hoc] at HC ⊢
  have hst := fun W => run_store Tryz.prog W ⟨w.heap.size + 1, 3, none⟩ ev .plain hone
  obtain ⟨O, hO⟩ : ∃ O, O = askF RReverseNumber n b := ⟨_, rfl⟩
  rw [← hO] at HF HC
  obtain ⟨z, hz⟩ : ∃ z, z = O.getD 0 := ⟨_, rfl⟩
  obtain ⟨ok, hok⟩ : ∃ ok, ok = O.isSome := ⟨_, rfl⟩
  have HF' := Lib.hid (show ∀ w', Calls Tryz.prog 113 #[.int .i64 n, .int .i64 b] w' fun e w'' => e = .returned (.tuple #[.int .i64 z, .bool ok]) ∧ Below w'.heap.size w' w'' by rw [hz, hok]; exact HF.out)
  have HC' := Lib.hid (show ∀ w', Env w' pn pw → Calls Tryz.prog 112 #[dsk n b, .int .i64 z, .bool ok] w' fun e w'' => e = .returned (.agg #[.int .i64 n', .int .i64 b', str S, ev]) ∧ Below w'.heap.size w' w'' by rw [hz, hok]; exact HC.out)
  clear hoc hone h hO hz hok HF HC hN hB
  go_enter Tryz.func59, Tryz.ntmps59
  go_wp2
  go_region_with (first
    | (go_at_call 113; refine (HF'.out _).mono ?_; rintro e w1 ⟨rfl, hb⟩; obtain ⟨k0, k1, B4, hb1⟩ := BF.out w1 ((Below.refl (w.heap.size + 2) _).drew.trans (hb.mono (by simp))); have HB1 := Lib.hid hb1; have HB4 := Lib.hid B4; have HE1 := Lib.hid (HE.out _ hb1); have HLT := Lib.hid (show w.heap.size + 1 < w1.heap.size by have := hb.size; simp at this; omega); clear hb hb1 B4)
    | (go_at_call 112; refine (HC'.out _ HE1.out).mono ?_; rintro e w2 ⟨rfl, hb⟩; have HB2 := Lib.hid (HB1.out.trans (hb.mono HB1.out.size)); have HB5 := Lib.hid (HB4.out.keep hb HLT.out); obtain ⟨y0, y1, y2, y3, e0, e1, e2, e3⟩ := HB5.out.all; have ef := HB5.out.free; clear hb))
  all_goals
    go_wp2
    refine bodyPost_ret (v := .agg #[.int .i64 n', .int .i64 b', str S, ev]) (ret_set4 rfl _ _ (w.heap.size + 1) _ _ _ _ rfl HB5.out) rfl ?_
    exact ⟨rfl, set4_below HB2.out (by omega) _ _ _ _⟩
set_option maxHeartbeats 4000000 in
theorem alone_up (n b : Int) (x : Tx) (hN : Num n) (hB : Bas b) (h0 : ¬ x = [114, 101, 118, 101, 114, 115, 101]) (hx : x = [117, 112]) (pn pw : Addr) (w : World) (h : Env w pn pw) :
    Calls Tryz.prog 59 #[dsk n b, str x] w fun e w' => e = .returned (oc pn pw (becF n b (askF RSortedUp n b))) ∧ Below w.heap.size w w' := by
  have q0 : (x == [114, 101, 118, 101, 114, 115, 101]) = false := beq_false_of_ne h0
  have q1 : (x == [117, 112]) = true := by rw [hx]; rfl
  clear h0 hx
  have HF := Lib.hid (fun w' => impl_SortedUp n b w')
  have HC := Lib.hid (fun w' (hw : Env w' pn pw) => become_any n b (askF RSortedUp n b) (fun m hm => up_rng hm) hB pn pw w' hw)
  have HE := Lib.hid (fun w' (hb : Below w.heap.size w w') => h.keep hb)
  have BF := Lib.hid (box_facts w n b (.int .i64 0) (.int .i64 0) (.string ⟨#[]⟩) .nilIface _ rfl)
  obtain ⟨n', b', S, ev, hoc, hone⟩ := oc_form pn pw (becF n b (askF RSortedUp n b))
  rw [hoc] at HC ⊢
  have hst := fun W => run_store Tryz.prog W ⟨w.heap.size + 1, 3, none⟩ ev .plain hone
  obtain ⟨O, hO⟩ : ∃ O, O = askF RSortedUp n b := ⟨_, rfl⟩
  rw [← hO] at HF HC
  obtain ⟨z, hz⟩ : ∃ z, z = O.getD 0 := ⟨_, rfl⟩
  obtain ⟨ok, hok⟩ : ∃ ok, ok = O.isSome := ⟨_, rfl⟩
  have HF' := Lib.hid (show ∀ w', Calls Tryz.prog 29 #[.int .i64 n, .int .i64 b] w' fun e w'' => e = .returned (.tuple #[.int .i64 z, .bool ok]) ∧ Below w'.heap.size w' w'' by rw [hz, hok]; exact HF.out)
  have HC' := Lib.hid (show ∀ w', Env w' pn pw → Calls Tryz.prog 112 #[dsk n b, .int .i64 z, .bool ok] w' fun e w'' => e = .returned (.agg #[.int .i64 n', .int .i64 b', str S, ev]) ∧ Below w'.heap.size w' w'' by rw [hz, hok]; exact HC.out)
  clear hoc hone h hO hz hok HF HC hN hB
  go_enter Tryz.func59, Tryz.ntmps59
  go_wp2
  go_region_with (first
    | (go_at_call 29; refine (HF'.out _).mono ?_; rintro e w1 ⟨rfl, hb⟩; obtain ⟨k0, k1, B4, hb1⟩ := BF.out w1 ((Below.refl (w.heap.size + 2) _).drew.trans (hb.mono (by simp))); have HB1 := Lib.hid hb1; have HB4 := Lib.hid B4; have HE1 := Lib.hid (HE.out _ hb1); have HLT := Lib.hid (show w.heap.size + 1 < w1.heap.size by have := hb.size; simp at this; omega); clear hb hb1 B4)
    | (go_at_call 112; refine (HC'.out _ HE1.out).mono ?_; rintro e w2 ⟨rfl, hb⟩; have HB2 := Lib.hid (HB1.out.trans (hb.mono HB1.out.size)); have HB5 := Lib.hid (HB4.out.keep hb HLT.out); obtain ⟨y0, y1, y2, y3, e0, e1, e2, e3⟩ := HB5.out.all; have ef := HB5.out.free; clear hb))
  all_goals
    go_wp2
    refine bodyPost_ret (v := .agg #[.int .i64 n', .int .i64 b', str S, ev]) (ret_set4 rfl _ _ (w.heap.size + 1) _ _ _ _ rfl HB5.out) rfl ?_
    exact ⟨rfl, set4_below HB2.out (by omega) _ _ _ _⟩
set_option maxHeartbeats 4000000 in
theorem alone_down (n b : Int) (x : Tx) (hN : Num n) (hB : Bas b) (h0 : ¬ x = [114, 101, 118, 101, 114, 115, 101]) (h1 : ¬ x = [117, 112]) (hx : x = [100, 111, 119, 110]) (pn pw : Addr) (w : World) (h : Env w pn pw) :
    Calls Tryz.prog 59 #[dsk n b, str x] w fun e w' => e = .returned (oc pn pw (becF n b (askF RSortedDown n b))) ∧ Below w.heap.size w w' := by
  have q0 : (x == [114, 101, 118, 101, 114, 115, 101]) = false := beq_false_of_ne h0
  have q1 : (x == [117, 112]) = false := beq_false_of_ne h1
  have q2 : (x == [100, 111, 119, 110]) = true := by rw [hx]; rfl
  clear h0 h1 hx
  have HF := Lib.hid (fun w' => impl_SortedDown n b w')
  have HC := Lib.hid (fun w' (hw : Env w' pn pw) => become_any n b (askF RSortedDown n b) (fun m hm => down_rng hm) hB pn pw w' hw)
  have HE := Lib.hid (fun w' (hb : Below w.heap.size w w') => h.keep hb)
  have BF := Lib.hid (box_facts w n b (.int .i64 0) (.int .i64 0) (.string ⟨#[]⟩) .nilIface _ rfl)
  obtain ⟨n', b', S, ev, hoc, hone⟩ := oc_form pn pw (becF n b (askF RSortedDown n b))
  rw [hoc] at HC ⊢
  have hst := fun W => run_store Tryz.prog W ⟨w.heap.size + 1, 3, none⟩ ev .plain hone
  obtain ⟨O, hO⟩ : ∃ O, O = askF RSortedDown n b := ⟨_, rfl⟩
  rw [← hO] at HF HC
  obtain ⟨z, hz⟩ : ∃ z, z = O.getD 0 := ⟨_, rfl⟩
  obtain ⟨ok, hok⟩ : ∃ ok, ok = O.isSome := ⟨_, rfl⟩
  have HF' := Lib.hid (show ∀ w', Calls Tryz.prog 114 #[.int .i64 n, .int .i64 b] w' fun e w'' => e = .returned (.tuple #[.int .i64 z, .bool ok]) ∧ Below w'.heap.size w' w'' by rw [hz, hok]; exact HF.out)
  have HC' := Lib.hid (show ∀ w', Env w' pn pw → Calls Tryz.prog 112 #[dsk n b, .int .i64 z, .bool ok] w' fun e w'' => e = .returned (.agg #[.int .i64 n', .int .i64 b', str S, ev]) ∧ Below w'.heap.size w' w'' by rw [hz, hok]; exact HC.out)
  clear hoc hone h hO hz hok HF HC hN hB
  go_enter Tryz.func59, Tryz.ntmps59
  go_wp2
  go_region_with (first
    | (go_at_call 114; refine (HF'.out _).mono ?_; rintro e w1 ⟨rfl, hb⟩; obtain ⟨k0, k1, B4, hb1⟩ := BF.out w1 ((Below.refl (w.heap.size + 2) _).drew.trans (hb.mono (by simp))); have HB1 := Lib.hid hb1; have HB4 := Lib.hid B4; have HE1 := Lib.hid (HE.out _ hb1); have HLT := Lib.hid (show w.heap.size + 1 < w1.heap.size by have := hb.size; simp at this; omega); clear hb hb1 B4)
    | (go_at_call 112; refine (HC'.out _ HE1.out).mono ?_; rintro e w2 ⟨rfl, hb⟩; have HB2 := Lib.hid (HB1.out.trans (hb.mono HB1.out.size)); have HB5 := Lib.hid (HB4.out.keep hb HLT.out); obtain ⟨y0, y1, y2, y3, e0, e1, e2, e3⟩ := HB5.out.all; have ef := HB5.out.free; clear hb))
  all_goals
    go_wp2
    refine bodyPost_ret (v := .agg #[.int .i64 n', .int .i64 b', str S, ev]) (ret_set4 rfl _ _ (w.heap.size + 1) _ _ _ _ rfl HB5.out) rfl ?_
    exact ⟨rfl, set4_below HB2.out (by omega) _ _ _ _⟩
set_option maxHeartbeats 4000000 in
theorem alone_step (n b : Int) (x : Tx) (hN : Num n) (hB : Bas b) (h0 : ¬ x = [114, 101, 118, 101, 114, 115, 101]) (h1 : ¬ x = [117, 112]) (h2 : ¬ x = [100, 111, 119, 110]) (hx : x = [115, 116, 101, 112]) (pn pw : Addr) (w : World) (h : Env w pn pw) :
    Calls Tryz.prog 59 #[dsk n b, str x] w fun e w' => e = .returned (oc pn pw (becF n b (ledW 1 n))) ∧ Below w.heap.size w w' := by
  have q0 : (x == [114, 101, 118, 101, 114, 115, 101]) = false := beq_false_of_ne h0
  have q1 : (x == [117, 112]) = false := beq_false_of_ne h1
  have q2 : (x == [100, 111, 119, 110]) = false := beq_false_of_ne h2
  have q3 : (x == [115, 116, 101, 112]) = true := by rw [hx]; rfl
  clear h0 h1 h2 hx
  have HF := Lib.hid (fun w' => impl_StepOf n w')
  have HC := Lib.hid (fun w' (hw : Env w' pn pw) => become_any n b (ledW 1 n) (fun m hm => step_rng hm) hB pn pw w' hw)
  have HE := Lib.hid (fun w' (hb : Below w.heap.size w w') => h.keep hb)
  have BF := Lib.hid (box_facts w n b (.int .i64 0) (.int .i64 0) (.string ⟨#[]⟩) .nilIface _ rfl)
  obtain ⟨n', b', S, ev, hoc, hone⟩ := oc_form pn pw (becF n b (ledW 1 n))
  rw [hoc] at HC ⊢
  have hst := fun W => run_store Tryz.prog W ⟨w.heap.size + 1, 3, none⟩ ev .plain hone
  obtain ⟨O, hO⟩ : ∃ O, O = ledW 1 n := ⟨_, rfl⟩
  rw [← hO] at HF HC
  obtain ⟨z, hz⟩ : ∃ z, z = O.getD 0 := ⟨_, rfl⟩
  obtain ⟨ok, hok⟩ : ∃ ok, ok = O.isSome := ⟨_, rfl⟩
  have HF' := Lib.hid (show ∀ w', Calls Tryz.prog 115 #[.int .i64 n] w' fun e w'' => e = .returned (.tuple #[.int .i64 z, .bool ok]) ∧ Below w'.heap.size w' w'' by rw [hz, hok]; exact HF.out)
  have HC' := Lib.hid (show ∀ w', Env w' pn pw → Calls Tryz.prog 112 #[dsk n b, .int .i64 z, .bool ok] w' fun e w'' => e = .returned (.agg #[.int .i64 n', .int .i64 b', str S, ev]) ∧ Below w'.heap.size w' w'' by rw [hz, hok]; exact HC.out)
  clear hoc hone h hO hz hok HF HC hN hB
  go_enter Tryz.func59, Tryz.ntmps59
  go_wp2
  go_region_with (first
    | (go_at_call 115; refine (HF'.out _).mono ?_; rintro e w1 ⟨rfl, hb⟩; obtain ⟨k0, k1, B4, hb1⟩ := BF.out w1 ((Below.refl (w.heap.size + 2) _).drew.trans (hb.mono (by simp))); have HB1 := Lib.hid hb1; have HB4 := Lib.hid B4; have HE1 := Lib.hid (HE.out _ hb1); have HLT := Lib.hid (show w.heap.size + 1 < w1.heap.size by have := hb.size; simp at this; omega); clear hb hb1 B4)
    | (go_at_call 112; refine (HC'.out _ HE1.out).mono ?_; rintro e w2 ⟨rfl, hb⟩; have HB2 := Lib.hid (HB1.out.trans (hb.mono HB1.out.size)); have HB5 := Lib.hid (HB4.out.keep hb HLT.out); obtain ⟨y0, y1, y2, y3, e0, e1, e2, e3⟩ := HB5.out.all; have ef := HB5.out.free; clear hb))
  all_goals
    go_wp2
    refine bodyPost_ret (v := .agg #[.int .i64 n', .int .i64 b', str S, ev]) (ret_set4 rfl _ _ (w.heap.size + 1) _ _ _ _ rfl HB5.out) rfl ?_
    exact ⟨rfl, set4_below HB2.out (by omega) _ _ _ _⟩
set_option maxHeartbeats 4000000 in
theorem alone_short (n b : Int) (x : Tx) (hN : Num n) (hB : Bas b) (h0 : ¬ x = [114, 101, 118, 101, 114, 115, 101]) (h1 : ¬ x = [117, 112]) (h2 : ¬ x = [100, 111, 119, 110]) (h3 : ¬ x = [115, 116, 101, 112]) (hx : x = [115, 104, 111, 114, 116]) (pn pw : Addr) (w : World) (h : Env w pn pw) :
    Calls Tryz.prog 59 #[dsk n b, str x] w fun e w' => e = .returned (oc pn pw (becF n b (ledS n))) ∧ Below w.heap.size w w' := by
  have q0 : (x == [114, 101, 118, 101, 114, 115, 101]) = false := beq_false_of_ne h0
  have q1 : (x == [117, 112]) = false := beq_false_of_ne h1
  have q2 : (x == [100, 111, 119, 110]) = false := beq_false_of_ne h2
  have q3 : (x == [115, 116, 101, 112]) = false := beq_false_of_ne h3
  have q4 : (x == [115, 104, 111, 114, 116]) = true := by rw [hx]; rfl
  clear h0 h1 h2 h3 hx
  have HF := Lib.hid (fun w' => impl_ShortStep n w')
  have HC := Lib.hid (fun w' (hw : Env w' pn pw) => become_any n b (ledS n) (fun m hm => short_rng hm) hB pn pw w' hw)
  have HE := Lib.hid (fun w' (hb : Below w.heap.size w w') => h.keep hb)
  have BF := Lib.hid (box_facts w n b (.int .i64 0) (.int .i64 0) (.string ⟨#[]⟩) .nilIface _ rfl)
  obtain ⟨n', b', S, ev, hoc, hone⟩ := oc_form pn pw (becF n b (ledS n))
  rw [hoc] at HC ⊢
  have hst := fun W => run_store Tryz.prog W ⟨w.heap.size + 1, 3, none⟩ ev .plain hone
  obtain ⟨O, hO⟩ : ∃ O, O = ledS n := ⟨_, rfl⟩
  rw [← hO] at HF HC
  obtain ⟨z, hz⟩ : ∃ z, z = O.getD 0 := ⟨_, rfl⟩
  obtain ⟨ok, hok⟩ : ∃ ok, ok = O.isSome := ⟨_, rfl⟩
  have HF' := Lib.hid (show ∀ w', Calls Tryz.prog 116 #[.int .i64 n] w' fun e w'' => e = .returned (.tuple #[.int .i64 z, .bool ok]) ∧ Below w'.heap.size w' w'' by rw [hz, hok]; exact HF.out)
  have HC' := Lib.hid (show ∀ w', Env w' pn pw → Calls Tryz.prog 112 #[dsk n b, .int .i64 z, .bool ok] w' fun e w'' => e = .returned (.agg #[.int .i64 n', .int .i64 b', str S, ev]) ∧ Below w'.heap.size w' w'' by rw [hz, hok]; exact HC.out)
  clear hoc hone h hO hz hok HF HC hN hB
  go_enter Tryz.func59, Tryz.ntmps59
  go_wp2
  go_region_with (first
    | (go_at_call 116; refine (HF'.out _).mono ?_; rintro e w1 ⟨rfl, hb⟩; obtain ⟨k0, k1, B4, hb1⟩ := BF.out w1 ((Below.refl (w.heap.size + 2) _).drew.trans (hb.mono (by simp))); have HB1 := Lib.hid hb1; have HB4 := Lib.hid B4; have HE1 := Lib.hid (HE.out _ hb1); have HLT := Lib.hid (show w.heap.size + 1 < w1.heap.size by have := hb.size; simp at this; omega); clear hb hb1 B4)
    | (go_at_call 112; refine (HC'.out _ HE1.out).mono ?_; rintro e w2 ⟨rfl, hb⟩; have HB2 := Lib.hid (HB1.out.trans (hb.mono HB1.out.size)); have HB5 := Lib.hid (HB4.out.keep hb HLT.out); obtain ⟨y0, y1, y2, y3, e0, e1, e2, e3⟩ := HB5.out.all; have ef := HB5.out.free; clear hb))
  all_goals
    go_wp2
    refine bodyPost_ret (v := .agg #[.int .i64 n', .int .i64 b', str S, ev]) (ret_set4 rfl _ _ (w.heap.size + 1) _ _ _ _ rfl HB5.out) rfl ?_
    exact ⟨rfl, set4_below HB2.out (by omega) _ _ _ _⟩
set_option maxHeartbeats 4000000 in
theorem alone_next (n b : Int) (x : Tx) (hN : Num n) (hB : Bas b) (h0 : ¬ x = [114, 101, 118, 101, 114, 115, 101]) (h1 : ¬ x = [117, 112]) (h2 : ¬ x = [100, 111, 119, 110]) (h3 : ¬ x = [115, 116, 101, 112]) (h4 : ¬ x = [115, 104, 111, 114, 116]) (hx : x = [110, 101, 120, 116]) (pn pw : Addr) (w : World) (h : Env w pn pw) :
    Calls Tryz.prog 59 #[dsk n b, str x] w fun e w' => e = .returned (oc pn pw (becF n b (askF RNextPalindrome n b))) ∧ Below w.heap.size w w' := by
  have q0 : (x == [114, 101, 118, 101, 114, 115, 101]) = false := beq_false_of_ne h0
  have q1 : (x == [117, 112]) = false := beq_false_of_ne h1
  have q2 : (x == [100, 111, 119, 110]) = false := beq_false_of_ne h2
  have q3 : (x == [115, 116, 101, 112]) = false := beq_false_of_ne h3
  have q4 : (x == [115, 104, 111, 114, 116]) = false := beq_false_of_ne h4
  have q5 : (x == [110, 101, 120, 116]) = true := by rw [hx]; rfl
  clear h0 h1 h2 h3 h4 hx
  have HF := Lib.hid (fun w' => impl_NextPalindrome n b w')
  have HC := Lib.hid (fun w' (hw : Env w' pn pw) => become_any n b (askF RNextPalindrome n b) (fun m hm => next_rng hm) hB pn pw w' hw)
  have HE := Lib.hid (fun w' (hb : Below w.heap.size w w') => h.keep hb)
  have BF := Lib.hid (box_facts w n b (.int .i64 0) (.int .i64 0) (.string ⟨#[]⟩) .nilIface _ rfl)
  obtain ⟨n', b', S, ev, hoc, hone⟩ := oc_form pn pw (becF n b (askF RNextPalindrome n b))
  rw [hoc] at HC ⊢
  have hst := fun W => run_store Tryz.prog W ⟨w.heap.size + 1, 3, none⟩ ev .plain hone
  obtain ⟨O, hO⟩ : ∃ O, O = askF RNextPalindrome n b := ⟨_, rfl⟩
  rw [← hO] at HF HC
  obtain ⟨z, hz⟩ : ∃ z, z = O.getD 0 := ⟨_, rfl⟩
  obtain ⟨ok, hok⟩ : ∃ ok, ok = O.isSome := ⟨_, rfl⟩
  have HF' := Lib.hid (show ∀ w', Calls Tryz.prog 117 #[.int .i64 n, .int .i64 b] w' fun e w'' => e = .returned (.tuple #[.int .i64 z, .bool ok]) ∧ Below w'.heap.size w' w'' by rw [hz, hok]; exact HF.out)
  have HC' := Lib.hid (show ∀ w', Env w' pn pw → Calls Tryz.prog 112 #[dsk n b, .int .i64 z, .bool ok] w' fun e w'' => e = .returned (.agg #[.int .i64 n', .int .i64 b', str S, ev]) ∧ Below w'.heap.size w' w'' by rw [hz, hok]; exact HC.out)
  clear hoc hone h hO hz hok HF HC hN hB
  go_enter Tryz.func59, Tryz.ntmps59
  go_wp2
  go_region_with (first
    | (go_at_call 117; refine (HF'.out _).mono ?_; rintro e w1 ⟨rfl, hb⟩; obtain ⟨k0, k1, B4, hb1⟩ := BF.out w1 ((Below.refl (w.heap.size + 2) _).drew.trans (hb.mono (by simp))); have HB1 := Lib.hid hb1; have HB4 := Lib.hid B4; have HE1 := Lib.hid (HE.out _ hb1); have HLT := Lib.hid (show w.heap.size + 1 < w1.heap.size by have := hb.size; simp at this; omega); clear hb hb1 B4)
    | (go_at_call 112; refine (HC'.out _ HE1.out).mono ?_; rintro e w2 ⟨rfl, hb⟩; have HB2 := Lib.hid (HB1.out.trans (hb.mono HB1.out.size)); have HB5 := Lib.hid (HB4.out.keep hb HLT.out); obtain ⟨y0, y1, y2, y3, e0, e1, e2, e3⟩ := HB5.out.all; have ef := HB5.out.free; clear hb))
  all_goals
    go_wp2
    refine bodyPost_ret (v := .agg #[.int .i64 n', .int .i64 b', str S, ev]) (ret_set4 rfl _ _ (w.heap.size + 1) _ _ _ _ rfl HB5.out) rfl ?_
    exact ⟨rfl, set4_below HB2.out (by omega) _ _ _ _⟩
set_option maxHeartbeats 4000000 in
theorem alone_show (n b : Int) (x : Tx) (hN : Num n) (hB : Bas b) (h0 : ¬ x = [114, 101, 118, 101, 114, 115, 101]) (h1 : ¬ x = [117, 112]) (h2 : ¬ x = [100, 111, 119, 110]) (h3 : ¬ x = [115, 116, 101, 112]) (h4 : ¬ x = [115, 104, 111, 114, 116]) (h5 : ¬ x = [110, 101, 120, 116]) (hx : x = [115, 104, 111, 119]) (pn pw : Addr) (w : World) (h : Env w pn pw) :
    Calls Tryz.prog 59 #[dsk n b, str x] w fun e w' => e = .returned (oc pn pw (n, b, Rp.say (RText n b))) ∧ Below w.heap.size w w' := by
  have q0 : (x == [114, 101, 118, 101, 114, 115, 101]) = false := beq_false_of_ne h0
  have q1 : (x == [117, 112]) = false := beq_false_of_ne h1
  have q2 : (x == [100, 111, 119, 110]) = false := beq_false_of_ne h2
  have q3 : (x == [115, 116, 101, 112]) = false := beq_false_of_ne h3
  have q4 : (x == [115, 104, 111, 114, 116]) = false := beq_false_of_ne h4
  have q5 : (x == [110, 101, 120, 116]) = false := beq_false_of_ne h5
  have q6 : (x == [115, 104, 111, 119]) = true := by rw [hx]; rfl
  clear h0 h1 h2 h3 h4 h5 hx
  have HF := Lib.hid (fun w' => impl_NumberText n b w')
  rw [okq_num hN hB] at HF
  have HC := Lib.hid (fun w' => say_yes n b (RText n b) pn pw w')
  rw [show orD (RText n b) = RText n b from if_neg (txt_ne hN hB)] at HC
  have HE := Lib.hid (fun w' (hb : Below w.heap.size w w') => h.keep hb)
  have BF := Lib.hid (box_facts w n b (.int .i64 0) (.int .i64 0) (.string ⟨#[]⟩) .nilIface _ rfl)
  obtain ⟨n', b', S, ev, hoc, hone⟩ := oc_form pn pw (n, b, Rp.say (RText n b))
  rw [hoc] at HC ⊢
  have hst := fun W => run_store Tryz.prog W ⟨w.heap.size + 1, 3, none⟩ ev .plain hone
  obtain ⟨T, hT⟩ : ∃ T, T = RText n b := ⟨_, rfl⟩
  rw [← hT] at HF HC
  have HF' := HF
  clear hoc hone h hT HF hN hB
  go_enter Tryz.func59, Tryz.ntmps59
  go_wp2
  go_region_with (first
    | (go_at_call 28; refine (HF'.out _).mono ?_; rintro e w1 ⟨rfl, hb⟩; obtain ⟨k0, k1, B4, hb1⟩ := BF.out w1 ((Below.refl (w.heap.size + 2) _).drew.trans (hb.mono (by simp))); have HB1 := Lib.hid hb1; have HB4 := Lib.hid B4; have HE1 := Lib.hid (HE.out _ hb1); have HLT := Lib.hid (show w.heap.size + 1 < w1.heap.size by have := hb.size; simp at this; omega); clear hb hb1 B4)
    | (go_at_call 118; refine (HC.out _).mono ?_; rintro e w2 ⟨rfl, hb⟩; have HB2 := Lib.hid (HB1.out.trans (hb.mono HB1.out.size)); have HB5 := Lib.hid (HB4.out.keep hb HLT.out); obtain ⟨y0, y1, y2, y3, e0, e1, e2, e3⟩ := HB5.out.all; have ef := HB5.out.free; clear hb))
  all_goals
    go_wp2
    refine bodyPost_ret (v := .agg #[.int .i64 n', .int .i64 b', str S, ev]) (ret_set4 rfl _ _ (w.heap.size + 1) _ _ _ _ rfl HB5.out) rfl ?_
    exact ⟨rfl, set4_below HB2.out (by omega) _ _ _ _⟩
set_option maxHeartbeats 4000000 in
theorem alone_digits (n b : Int) (x : Tx) (hN : Num n) (hB : Bas b) (h0 : ¬ x = [114, 101, 118, 101, 114, 115, 101]) (h1 : ¬ x = [117, 112]) (h2 : ¬ x = [100, 111, 119, 110]) (h3 : ¬ x = [115, 116, 101, 112]) (h4 : ¬ x = [115, 104, 111, 114, 116]) (h5 : ¬ x = [110, 101, 120, 116]) (h6 : ¬ x = [115, 104, 111, 119]) (hx : x = [100, 105, 103, 105, 116, 115]) (pn pw : Addr) (w : World) (h : Env w pn pw) :
    Calls Tryz.prog 59 #[dsk n b, str x] w fun e w' => e = .returned (oc pn pw (lstF n b true (dgs b n))) ∧ Below w.heap.size w w' := by
  have q0 : (x == [114, 101, 118, 101, 114, 115, 101]) = false := beq_false_of_ne h0
  have q1 : (x == [117, 112]) = false := beq_false_of_ne h1
  have q2 : (x == [100, 111, 119, 110]) = false := beq_false_of_ne h2
  have q3 : (x == [115, 116, 101, 112]) = false := beq_false_of_ne h3
  have q4 : (x == [115, 104, 111, 114, 116]) = false := beq_false_of_ne h4
  have q5 : (x == [110, 101, 120, 116]) = false := beq_false_of_ne h5
  have q6 : (x == [115, 104, 111, 119]) = false := beq_false_of_ne h6
  have q7 : (x == [100, 105, 103, 105, 116, 115]) = true := by rw [hx]; rfl
  clear h0 h1 h2 h3 h4 h5 h6 hx
  have HF := Lib.hid (fun w' => impl_DigitsOf n b w')
  rw [okq_num hN hB, show askL dgs n b = dgs b n from if_pos ⟨hN, hB⟩] at HF
  have HC := Lib.hid (fun v D w' (hw : Env w' pn pw) hv => list_loop n b true (dgs b n) (dgs_nice hN hB) v D pn pw w' hw hv)
  have HE := Lib.hid (fun w' (hb : Below w.heap.size w w') => h.keep hb)
  have BF := Lib.hid (box_facts w n b (.int .i64 0) (.int .i64 0) (.string ⟨#[]⟩) .nilIface _ rfl)
  obtain ⟨n', b', S, ev, hoc, hone⟩ := oc_form pn pw (lstF n b true (dgs b n))
  rw [hoc] at HC ⊢
  have hst := fun W => run_store Tryz.prog W ⟨w.heap.size + 1, 3, none⟩ ev .plain hone
  obtain ⟨ds, hds⟩ : ∃ ds, ds = dgs b n := ⟨_, rfl⟩
  rw [← hds] at HF HC
  have HF' := HF
  clear hoc hone h hds HF hN hB
  go_enter Tryz.func59, Tryz.ntmps59
  go_wp2
  go_region_with (first
    | (go_at_call 120; refine (HF'.out _).mono ?_; rintro e w1 ⟨v1, rfl, hr, hb⟩; obtain ⟨k0, k1, B4, hb1⟩ := BF.out w1 ((Below.refl (w.heap.size + 2) _).drew.trans (hb.mono (by simp))); have HR1 := Lib.hid hr; clear hr; have HB1 := Lib.hid hb1; have HB4 := Lib.hid B4; have HE1 := Lib.hid (HE.out _ hb1); have HLT := Lib.hid (show w.heap.size + 1 < w1.heap.size by have := hb.size; simp at this; omega); clear hb hb1 B4)
    | (go_at_call 119; refine (HC.out _ _ _ HE1.out HR1.out).mono ?_; rintro e w2 ⟨rfl, hb⟩; have HB2 := Lib.hid (HB1.out.trans (hb.mono HB1.out.size)); have HB5 := Lib.hid (HB4.out.keep hb HLT.out); obtain ⟨y0, y1, y2, y3, e0, e1, e2, e3⟩ := HB5.out.all; have ef := HB5.out.free; clear hb))
  all_goals
    go_wp2
    refine bodyPost_ret (v := .agg #[.int .i64 n', .int .i64 b', str S, ev]) (ret_set4 rfl _ _ (w.heap.size + 1) _ _ _ _ rfl HB5.out) rfl ?_
    exact ⟨rfl, set4_below HB2.out (by omega) _ _ _ _⟩
set_option maxHeartbeats 4000000 in
theorem alone_sum (n b : Int) (x : Tx) (hN : Num n) (hB : Bas b) (h0 : ¬ x = [114, 101, 118, 101, 114, 115, 101]) (h1 : ¬ x = [117, 112]) (h2 : ¬ x = [100, 111, 119, 110]) (h3 : ¬ x = [115, 116, 101, 112]) (h4 : ¬ x = [115, 104, 111, 114, 116]) (h5 : ¬ x = [110, 101, 120, 116]) (h6 : ¬ x = [115, 104, 111, 119]) (h7 : ¬ x = [100, 105, 103, 105, 116, 115]) (hx : x = [115, 117, 109]) (pn pw : Addr) (w : World) (h : Env w pn pw) :
    Calls Tryz.prog 59 #[dsk n b, str x] w fun e w' => e = .returned (oc pn pw (numR n b (askI RDigitSum n b))) ∧ Below w.heap.size w w' := by
  have q0 : (x == [114, 101, 118, 101, 114, 115, 101]) = false := beq_false_of_ne h0
  have q1 : (x == [117, 112]) = false := beq_false_of_ne h1
  have q2 : (x == [100, 111, 119, 110]) = false := beq_false_of_ne h2
  have q3 : (x == [115, 116, 101, 112]) = false := beq_false_of_ne h3
  have q4 : (x == [115, 104, 111, 114, 116]) = false := beq_false_of_ne h4
  have q5 : (x == [110, 101, 120, 116]) = false := beq_false_of_ne h5
  have q6 : (x == [115, 104, 111, 119]) = false := beq_false_of_ne h6
  have q7 : (x == [100, 105, 103, 105, 116, 115]) = false := beq_false_of_ne h7
  have q8 : (x == [115, 117, 109]) = true := by rw [hx]; rfl
  clear h0 h1 h2 h3 h4 h5 h6 h7 hx
  have HF := Lib.hid (fun w' => impl_DigitSum n b w')
  have HC := Lib.hid (fun w' (hw : Env w' pn pw) => count_any n b (askI RDigitSum n b) (sum_pos n b) pn pw w' hw)
  have HE := Lib.hid (fun w' (hb : Below w.heap.size w w') => h.keep hb)
  have BF := Lib.hid (box_facts w n b (.int .i64 0) (.int .i64 0) (.string ⟨#[]⟩) .nilIface _ rfl)
  obtain ⟨n', b', S, ev, hoc, hone⟩ := oc_form pn pw (numR n b (askI RDigitSum n b))
  rw [hoc] at HC ⊢
  have hst := fun W => run_store Tryz.prog W ⟨w.heap.size + 1, 3, none⟩ ev .plain hone
  obtain ⟨O, hO⟩ : ∃ O, O = askI RDigitSum n b := ⟨_, rfl⟩
  rw [← hO] at HF HC
  obtain ⟨z, hz⟩ : ∃ z, z = O.getD 0 := ⟨_, rfl⟩
  obtain ⟨ok, hok⟩ : ∃ ok, ok = O.isSome := ⟨_, rfl⟩
  have HF' := Lib.hid (show ∀ w', Calls Tryz.prog 122 #[.int .i64 n, .int .i64 b] w' fun e w'' => e = .returned (.tuple #[.int .i64 z, .bool ok]) ∧ Below w'.heap.size w' w'' by rw [hz, hok]; exact HF.out)
  have HC' := Lib.hid (show ∀ w', Env w' pn pw → Calls Tryz.prog 121 #[dsk n b, .int .i64 z, .bool ok] w' fun e w'' => e = .returned (.agg #[.int .i64 n', .int .i64 b', str S, ev]) ∧ Below w'.heap.size w' w'' by rw [hz, hok]; exact HC.out)
  clear hoc hone h hO hz hok HF HC hN hB
  go_enter Tryz.func59, Tryz.ntmps59
  go_wp2
  go_region_with (first
    | (go_at_call 122; refine (HF'.out _).mono ?_; rintro e w1 ⟨rfl, hb⟩; obtain ⟨k0, k1, B4, hb1⟩ := BF.out w1 ((Below.refl (w.heap.size + 2) _).drew.trans (hb.mono (by simp))); have HB1 := Lib.hid hb1; have HB4 := Lib.hid B4; have HE1 := Lib.hid (HE.out _ hb1); have HLT := Lib.hid (show w.heap.size + 1 < w1.heap.size by have := hb.size; simp at this; omega); clear hb hb1 B4)
    | (go_at_call 121; refine (HC'.out _ HE1.out).mono ?_; rintro e w2 ⟨rfl, hb⟩; have HB2 := Lib.hid (HB1.out.trans (hb.mono HB1.out.size)); have HB5 := Lib.hid (HB4.out.keep hb HLT.out); obtain ⟨y0, y1, y2, y3, e0, e1, e2, e3⟩ := HB5.out.all; have ef := HB5.out.free; clear hb))
  all_goals
    go_wp2
    refine bodyPost_ret (v := .agg #[.int .i64 n', .int .i64 b', str S, ev]) (ret_set4 rfl _ _ (w.heap.size + 1) _ _ _ _ rfl HB5.out) rfl ?_
    exact ⟨rfl, set4_below HB2.out (by omega) _ _ _ _⟩
set_option maxHeartbeats 4000000 in
theorem alone_root (n b : Int) (x : Tx) (hN : Num n) (hB : Bas b) (h0 : ¬ x = [114, 101, 118, 101, 114, 115, 101]) (h1 : ¬ x = [117, 112]) (h2 : ¬ x = [100, 111, 119, 110]) (h3 : ¬ x = [115, 116, 101, 112]) (h4 : ¬ x = [115, 104, 111, 114, 116]) (h5 : ¬ x = [110, 101, 120, 116]) (h6 : ¬ x = [115, 104, 111, 119]) (h7 : ¬ x = [100, 105, 103, 105, 116, 115]) (h8 : ¬ x = [115, 117, 109]) (hx : x = [114, 111, 111, 116]) (pn pw : Addr) (w : World) (h : Env w pn pw) :
    Calls Tryz.prog 59 #[dsk n b, str x] w fun e w' => e = .returned (oc pn pw (numR n b (askI RDigitalRoot n b))) ∧ Below w.heap.size w w' := by
  have q0 : (x == [114, 101, 118, 101, 114, 115, 101]) = false := beq_false_of_ne h0
  have q1 : (x == [117, 112]) = false := beq_false_of_ne h1
  have q2 : (x == [100, 111, 119, 110]) = false := beq_false_of_ne h2
  have q3 : (x == [115, 116, 101, 112]) = false := beq_false_of_ne h3
  have q4 : (x == [115, 104, 111, 114, 116]) = false := beq_false_of_ne h4
  have q5 : (x == [110, 101, 120, 116]) = false := beq_false_of_ne h5
  have q6 : (x == [115, 104, 111, 119]) = false := beq_false_of_ne h6
  have q7 : (x == [100, 105, 103, 105, 116, 115]) = false := beq_false_of_ne h7
  have q8 : (x == [115, 117, 109]) = false := beq_false_of_ne h8
  have q9 : (x == [114, 111, 111, 116]) = true := by rw [hx]; rfl
  clear h0 h1 h2 h3 h4 h5 h6 h7 h8 hx
  have HF := Lib.hid (fun w' => impl_DigitalRoot n b w')
  have HC := Lib.hid (fun w' (hw : Env w' pn pw) => count_any n b (askI RDigitalRoot n b) (root_pos n b) pn pw w' hw)
  have HE := Lib.hid (fun w' (hb : Below w.heap.size w w') => h.keep hb)
  have BF := Lib.hid (box_facts w n b (.int .i64 0) (.int .i64 0) (.string ⟨#[]⟩) .nilIface _ rfl)
  obtain ⟨n', b', S, ev, hoc, hone⟩ := oc_form pn pw (numR n b (askI RDigitalRoot n b))
  rw [hoc] at HC ⊢
  have hst := fun W => run_store Tryz.prog W ⟨w.heap.size + 1, 3, none⟩ ev .plain hone
  obtain ⟨O, hO⟩ : ∃ O, O = askI RDigitalRoot n b := ⟨_, rfl⟩
  rw [← hO] at HF HC
  obtain ⟨z, hz⟩ : ∃ z, z = O.getD 0 := ⟨_, rfl⟩
  obtain ⟨ok, hok⟩ : ∃ ok, ok = O.isSome := ⟨_, rfl⟩
  have HF' := Lib.hid (show ∀ w', Calls Tryz.prog 123 #[.int .i64 n, .int .i64 b] w' fun e w'' => e = .returned (.tuple #[.int .i64 z, .bool ok]) ∧ Below w'.heap.size w' w'' by rw [hz, hok]; exact HF.out)
  have HC' := Lib.hid (show ∀ w', Env w' pn pw → Calls Tryz.prog 121 #[dsk n b, .int .i64 z, .bool ok] w' fun e w'' => e = .returned (.agg #[.int .i64 n', .int .i64 b', str S, ev]) ∧ Below w'.heap.size w' w'' by rw [hz, hok]; exact HC.out)
  clear hoc hone h hO hz hok HF HC hN hB
  go_enter Tryz.func59, Tryz.ntmps59
  go_wp2
  go_region_with (first
    | (go_at_call 123; refine (HF'.out _).mono ?_; rintro e w1 ⟨rfl, hb⟩; obtain ⟨k0, k1, B4, hb1⟩ := BF.out w1 ((Below.refl (w.heap.size + 2) _).drew.trans (hb.mono (by simp))); have HB1 := Lib.hid hb1; have HB4 := Lib.hid B4; have HE1 := Lib.hid (HE.out _ hb1); have HLT := Lib.hid (show w.heap.size + 1 < w1.heap.size by have := hb.size; simp at this; omega); clear hb hb1 B4)
    | (go_at_call 121; refine (HC'.out _ HE1.out).mono ?_; rintro e w2 ⟨rfl, hb⟩; have HB2 := Lib.hid (HB1.out.trans (hb.mono HB1.out.size)); have HB5 := Lib.hid (HB4.out.keep hb HLT.out); obtain ⟨y0, y1, y2, y3, e0, e1, e2, e3⟩ := HB5.out.all; have ef := HB5.out.free; clear hb))
  all_goals
    go_wp2
    refine bodyPost_ret (v := .agg #[.int .i64 n', .int .i64 b', str S, ev]) (ret_set4 rfl _ _ (w.heap.size + 1) _ _ _ _ rfl HB5.out) rfl ?_
    exact ⟨rfl, set4_below HB2.out (by omega) _ _ _ _⟩
set_option maxHeartbeats 4000000 in
theorem alone_ways (n b : Int) (x : Tx) (hN : Num n) (hB : Bas b) (h0 : ¬ x = [114, 101, 118, 101, 114, 115, 101]) (h1 : ¬ x = [117, 112]) (h2 : ¬ x = [100, 111, 119, 110]) (h3 : ¬ x = [115, 116, 101, 112]) (h4 : ¬ x = [115, 104, 111, 114, 116]) (h5 : ¬ x = [110, 101, 120, 116]) (h6 : ¬ x = [115, 104, 111, 119]) (h7 : ¬ x = [100, 105, 103, 105, 116, 115]) (h8 : ¬ x = [115, 117, 109]) (h9 : ¬ x = [114, 111, 111, 116]) (hx : x = [119, 97, 121, 115]) (pn pw : Addr) (w : World) (h : Env w pn pw) :
    Calls Tryz.prog 59 #[dsk n b, str x] w fun e w' => e = .returned (oc pn pw (numR n b (askI RCountRearranged n b))) ∧ Below w.heap.size w w' := by
  have q0 : (x == [114, 101, 118, 101, 114, 115, 101]) = false := beq_false_of_ne h0
  have q1 : (x == [117, 112]) = false := beq_false_of_ne h1
  have q2 : (x == [100, 111, 119, 110]) = false := beq_false_of_ne h2
  have q3 : (x == [115, 116, 101, 112]) = false := beq_false_of_ne h3
  have q4 : (x == [115, 104, 111, 114, 116]) = false := beq_false_of_ne h4
  have q5 : (x == [110, 101, 120, 116]) = false := beq_false_of_ne h5
  have q6 : (x == [115, 104, 111, 119]) = false := beq_false_of_ne h6
  have q7 : (x == [100, 105, 103, 105, 116, 115]) = false := beq_false_of_ne h7
  have q8 : (x == [115, 117, 109]) = false := beq_false_of_ne h8
  have q9 : (x == [114, 111, 111, 116]) = false := beq_false_of_ne h9
  have q10 : (x == [119, 97, 121, 115]) = true := by rw [hx]; rfl
  clear h0 h1 h2 h3 h4 h5 h6 h7 h8 h9 hx
  have HF := Lib.hid (fun w' => impl_CountRearranged n b w')
  have HC := Lib.hid (fun w' (hw : Env w' pn pw) => count_any n b (askI RCountRearranged n b) (ways_pos n b) pn pw w' hw)
  have HE := Lib.hid (fun w' (hb : Below w.heap.size w w') => h.keep hb)
  have BF := Lib.hid (box_facts w n b (.int .i64 0) (.int .i64 0) (.string ⟨#[]⟩) .nilIface _ rfl)
  obtain ⟨n', b', S, ev, hoc, hone⟩ := oc_form pn pw (numR n b (askI RCountRearranged n b))
  rw [hoc] at HC ⊢
  have hst := fun W => run_store Tryz.prog W ⟨w.heap.size + 1, 3, none⟩ ev .plain hone
  obtain ⟨O, hO⟩ : ∃ O, O = askI RCountRearranged n b := ⟨_, rfl⟩
  rw [← hO] at HF HC
  obtain ⟨z, hz⟩ : ∃ z, z = O.getD 0 := ⟨_, rfl⟩
  obtain ⟨ok, hok⟩ : ∃ ok, ok = O.isSome := ⟨_, rfl⟩
  have HF' := Lib.hid (show ∀ w', Calls Tryz.prog 124 #[.int .i64 n, .int .i64 b] w' fun e w'' => e = .returned (.tuple #[.int .i64 z, .bool ok]) ∧ Below w'.heap.size w' w'' by rw [hz, hok]; exact HF.out)
  have HC' := Lib.hid (show ∀ w', Env w' pn pw → Calls Tryz.prog 121 #[dsk n b, .int .i64 z, .bool ok] w' fun e w'' => e = .returned (.agg #[.int .i64 n', .int .i64 b', str S, ev]) ∧ Below w'.heap.size w' w'' by rw [hz, hok]; exact HC.out)
  clear hoc hone h hO hz hok HF HC hN hB
  go_enter Tryz.func59, Tryz.ntmps59
  go_wp2
  go_region_with (first
    | (go_at_call 124; refine (HF'.out _).mono ?_; rintro e w1 ⟨rfl, hb⟩; obtain ⟨k0, k1, B4, hb1⟩ := BF.out w1 ((Below.refl (w.heap.size + 2) _).drew.trans (hb.mono (by simp))); have HB1 := Lib.hid hb1; have HB4 := Lib.hid B4; have HE1 := Lib.hid (HE.out _ hb1); have HLT := Lib.hid (show w.heap.size + 1 < w1.heap.size by have := hb.size; simp at this; omega); clear hb hb1 B4)
    | (go_at_call 121; refine (HC'.out _ HE1.out).mono ?_; rintro e w2 ⟨rfl, hb⟩; have HB2 := Lib.hid (HB1.out.trans (hb.mono HB1.out.size)); have HB5 := Lib.hid (HB4.out.keep hb HLT.out); obtain ⟨y0, y1, y2, y3, e0, e1, e2, e3⟩ := HB5.out.all; have ef := HB5.out.free; clear hb))
  all_goals
    go_wp2
    refine bodyPost_ret (v := .agg #[.int .i64 n', .int .i64 b', str S, ev]) (ret_set4 rfl _ _ (w.heap.size + 1) _ _ _ _ rfl HB5.out) rfl ?_
    exact ⟨rfl, set4_below HB2.out (by omega) _ _ _ _⟩
set_option maxHeartbeats 4000000 in
theorem alone_happy (n b : Int) (x : Tx) (hN : Num n) (hB : Bas b) (h0 : ¬ x = [114, 101, 118, 101, 114, 115, 101]) (h1 : ¬ x = [117, 112]) (h2 : ¬ x = [100, 111, 119, 110]) (h3 : ¬ x = [115, 116, 101, 112]) (h4 : ¬ x = [115, 104, 111, 114, 116]) (h5 : ¬ x = [110, 101, 120, 116]) (h6 : ¬ x = [115, 104, 111, 119]) (h7 : ¬ x = [100, 105, 103, 105, 116, 115]) (h8 : ¬ x = [115, 117, 109]) (h9 : ¬ x = [114, 111, 111, 116]) (h10 : ¬ x = [119, 97, 121, 115]) (hx : x = [104, 97, 112, 112, 121]) (pn pw : Addr) (w : World) (h : Env w pn pw) :
    Calls Tryz.prog 59 #[dsk n b, str x] w fun e w' => e = .returned (oc pn pw (n, b, Rp.say (if hap b.toNat n.toNat then [121, 101, 115] else [115, 97, 100]))) ∧ Below w.heap.size w w' := by
  have q0 : (x == [114, 101, 118, 101, 114, 115, 101]) = false := beq_false_of_ne h0
  have q1 : (x == [117, 112]) = false := beq_false_of_ne h1
  have q2 : (x == [100, 111, 119, 110]) = false := beq_false_of_ne h2
  have q3 : (x == [115, 116, 101, 112]) = false := beq_false_of_ne h3
  have q4 : (x == [115, 104, 111, 114, 116]) = false := beq_false_of_ne h4
  have q5 : (x == [110, 101, 120, 116]) = false := beq_false_of_ne h5
  have q6 : (x == [115, 104, 111, 119]) = false := beq_false_of_ne h6
  have q7 : (x == [100, 105, 103, 105, 116, 115]) = false := beq_false_of_ne h7
  have q8 : (x == [115, 117, 109]) = false := beq_false_of_ne h8
  have q9 : (x == [114, 111, 111, 116]) = false := beq_false_of_ne h9
  have q10 : (x == [119, 97, 121, 115]) = false := beq_false_of_ne h10
  have q11 : (x == [104, 97, 112, 112, 121]) = true := by rw [hx]; rfl
  clear h0 h1 h2 h3 h4 h5 h6 h7 h8 h9 h10 hx
  have HF := Lib.hid (fun w' => impl_IsHappy n b w')
  rw [show R_IsHappy n b = .tuple #[.bool (hap b.toNat n.toNat), .bool true] by unfold R_IsHappy; rw [happy_val hN hB, happy_ok hN hB]] at HF
  have HC := Lib.hid (fun w' => judge_any n b (hap b.toNat n.toNat) pn pw w')
  have HE := Lib.hid (fun w' (hb : Below w.heap.size w w') => h.keep hb)
  have BF := Lib.hid (box_facts w n b (.int .i64 0) (.int .i64 0) (.string ⟨#[]⟩) .nilIface _ rfl)
  obtain ⟨n', b', S, ev, hoc, hone⟩ := oc_form pn pw (n, b, Rp.say (if hap b.toNat n.toNat then [121, 101, 115] else [115, 97, 100]))
  rw [hoc] at HC ⊢
  have hst := fun W => run_store Tryz.prog W ⟨w.heap.size + 1, 3, none⟩ ev .plain hone
  obtain ⟨q, hq⟩ : ∃ q, q = hap b.toNat n.toNat := ⟨_, rfl⟩
  rw [← hq] at HF HC
  have HF' := HF
  clear hoc hone h hq HF hN hB
  go_enter Tryz.func59, Tryz.ntmps59
  go_wp2
  go_region_with (first
    | (go_at_call 126; refine (HF'.out _).mono ?_; rintro e w1 ⟨rfl, hb⟩; obtain ⟨k0, k1, B4, hb1⟩ := BF.out w1 ((Below.refl (w.heap.size + 2) _).drew.trans (hb.mono (by simp))); have HB1 := Lib.hid hb1; have HB4 := Lib.hid B4; have HE1 := Lib.hid (HE.out _ hb1); have HLT := Lib.hid (show w.heap.size + 1 < w1.heap.size by have := hb.size; simp at this; omega); clear hb hb1 B4)
    | (go_at_call 125; refine (HC.out _).mono ?_; rintro e w2 ⟨rfl, hb⟩; have HB2 := Lib.hid (HB1.out.trans (hb.mono HB1.out.size)); have HB5 := Lib.hid (HB4.out.keep hb HLT.out); obtain ⟨y0, y1, y2, y3, e0, e1, e2, e3⟩ := HB5.out.all; have ef := HB5.out.free; clear hb))
  all_goals
    go_wp2
    refine bodyPost_ret (v := .agg #[.int .i64 n', .int .i64 b', str S, ev]) (ret_set4 rfl _ _ (w.heap.size + 1) _ _ _ _ rfl HB5.out) rfl ?_
    exact ⟨rfl, set4_below HB2.out (by omega) _ _ _ _⟩
set_option maxHeartbeats 4000000 in
theorem alone_steps (n b : Int) (x : Tx) (hN : Num n) (hB : Bas b) (h0 : ¬ x = [114, 101, 118, 101, 114, 115, 101]) (h1 : ¬ x = [117, 112]) (h2 : ¬ x = [100, 111, 119, 110]) (h3 : ¬ x = [115, 116, 101, 112]) (h4 : ¬ x = [115, 104, 111, 114, 116]) (h5 : ¬ x = [110, 101, 120, 116]) (h6 : ¬ x = [115, 104, 111, 119]) (h7 : ¬ x = [100, 105, 103, 105, 116, 115]) (h8 : ¬ x = [115, 117, 109]) (h9 : ¬ x = [114, 111, 111, 116]) (h10 : ¬ x = [119, 97, 121, 115]) (h11 : ¬ x = [104, 97, 112, 112, 121]) (hx : x = [115, 116, 101, 112, 115]) (pn pw : Addr) (w : World) (h : Env w pn pw) :
    Calls Tryz.prog 59 #[dsk n b, str x] w fun e w' => e = .returned (oc pn pw (numR n b (RStepsTo n))) ∧ Below w.heap.size w w' := by
  have q0 : (x == [114, 101, 118, 101, 114, 115, 101]) = false := beq_false_of_ne h0
  have q1 : (x == [117, 112]) = false := beq_false_of_ne h1
  have q2 : (x == [100, 111, 119, 110]) = false := beq_false_of_ne h2
  have q3 : (x == [115, 116, 101, 112]) = false := beq_false_of_ne h3
  have q4 : (x == [115, 104, 111, 114, 116]) = false := beq_false_of_ne h4
  have q5 : (x == [110, 101, 120, 116]) = false := beq_false_of_ne h5
  have q6 : (x == [115, 104, 111, 119]) = false := beq_false_of_ne h6
  have q7 : (x == [100, 105, 103, 105, 116, 115]) = false := beq_false_of_ne h7
  have q8 : (x == [115, 117, 109]) = false := beq_false_of_ne h8
  have q9 : (x == [114, 111, 111, 116]) = false := beq_false_of_ne h9
  have q10 : (x == [119, 97, 121, 115]) = false := beq_false_of_ne h10
  have q11 : (x == [104, 97, 112, 112, 121]) = false := beq_false_of_ne h11
  have q12 : (x == [115, 116, 101, 112, 115]) = true := by rw [hx]; rfl
  clear h0 h1 h2 h3 h4 h5 h6 h7 h8 h9 h10 h11 hx
  have HF := Lib.hid (fun w' => impl_StepsTo n w')
  have HC := Lib.hid (fun w' (hw : Env w' pn pw) => count_any n b (RStepsTo n) (steps_pos n) pn pw w' hw)
  have HE := Lib.hid (fun w' (hb : Below w.heap.size w w') => h.keep hb)
  have BF := Lib.hid (box_facts w n b (.int .i64 0) (.int .i64 0) (.string ⟨#[]⟩) .nilIface _ rfl)
  obtain ⟨n', b', S, ev, hoc, hone⟩ := oc_form pn pw (numR n b (RStepsTo n))
  rw [hoc] at HC ⊢
  have hst := fun W => run_store Tryz.prog W ⟨w.heap.size + 1, 3, none⟩ ev .plain hone
  obtain ⟨O, hO⟩ : ∃ O, O = RStepsTo n := ⟨_, rfl⟩
  rw [← hO] at HF HC
  obtain ⟨z, hz⟩ : ∃ z, z = O.getD 0 := ⟨_, rfl⟩
  obtain ⟨ok, hok⟩ : ∃ ok, ok = O.isSome := ⟨_, rfl⟩
  have HF' := Lib.hid (show ∀ w', Calls Tryz.prog 127 #[.int .i64 n] w' fun e w'' => e = .returned (.tuple #[.int .i64 z, .bool ok]) ∧ Below w'.heap.size w' w'' by rw [hz, hok]; exact HF.out)
  have HC' := Lib.hid (show ∀ w', Env w' pn pw → Calls Tryz.prog 121 #[dsk n b, .int .i64 z, .bool ok] w' fun e w'' => e = .returned (.agg #[.int .i64 n', .int .i64 b', str S, ev]) ∧ Below w'.heap.size w' w'' by rw [hz, hok]; exact HC.out)
  clear hoc hone h hO hz hok HF HC hN hB
  go_enter Tryz.func59, Tryz.ntmps59
  go_wp2
  go_region_with (first
    | (go_at_call 127; refine (HF'.out _).mono ?_; rintro e w1 ⟨rfl, hb⟩; obtain ⟨k0, k1, B4, hb1⟩ := BF.out w1 ((Below.refl (w.heap.size + 2) _).drew.trans (hb.mono (by simp))); have HB1 := Lib.hid hb1; have HB4 := Lib.hid B4; have HE1 := Lib.hid (HE.out _ hb1); have HLT := Lib.hid (show w.heap.size + 1 < w1.heap.size by have := hb.size; simp at this; omega); clear hb hb1 B4)
    | (go_at_call 121; refine (HC'.out _ HE1.out).mono ?_; rintro e w2 ⟨rfl, hb⟩; have HB2 := Lib.hid (HB1.out.trans (hb.mono HB1.out.size)); have HB5 := Lib.hid (HB4.out.keep hb HLT.out); obtain ⟨y0, y1, y2, y3, e0, e1, e2, e3⟩ := HB5.out.all; have ef := HB5.out.free; clear hb))
  all_goals
    go_wp2
    refine bodyPost_ret (v := .agg #[.int .i64 n', .int .i64 b', str S, ev]) (ret_set4 rfl _ _ (w.heap.size + 1) _ _ _ _ rfl HB5.out) rfl ?_
    exact ⟨rfl, set4_below HB2.out (by omega) _ _ _ _⟩
theorem alone_none (n b : Int) (x : Tx) (h0 : ¬ x = [114, 101, 118, 101, 114, 115, 101]) (h1 : ¬ x = [117, 112]) (h2 : ¬ x = [100, 111, 119, 110]) (h3 : ¬ x = [115, 116, 101, 112]) (h4 : ¬ x = [115, 104, 111, 114, 116]) (h5 : ¬ x = [110, 101, 120, 116]) (h6 : ¬ x = [115, 104, 111, 119]) (h7 : ¬ x = [100, 105, 103, 105, 116, 115]) (h8 : ¬ x = [115, 117, 109]) (h9 : ¬ x = [114, 111, 111, 116]) (h10 : ¬ x = [119, 97, 121, 115]) (h11 : ¬ x = [104, 97, 112, 112, 121]) (h12 : ¬ x = [115, 116, 101, 112, 115]) (pn pw : Addr) (w : World) (h : Env w pn pw) :
    Calls Tryz.prog 59 #[dsk n b, str x] w fun e w' => e = .returned (oc pn pw (n, b, Rp.what)) ∧ Below w.heap.size w w' := by
  have q0 : (x == [114, 101, 118, 101, 114, 115, 101]) = false := beq_false_of_ne h0
  have q1 : (x == [117, 112]) = false := beq_false_of_ne h1
  have q2 : (x == [100, 111, 119, 110]) = false := beq_false_of_ne h2
  have q3 : (x == [115, 116, 101, 112]) = false := beq_false_of_ne h3
  have q4 : (x == [115, 104, 111, 114, 116]) = false := beq_false_of_ne h4
  have q5 : (x == [110, 101, 120, 116]) = false := beq_false_of_ne h5
  have q6 : (x == [115, 104, 111, 119]) = false := beq_false_of_ne h6
  have q7 : (x == [100, 105, 103, 105, 116, 115]) = false := beq_false_of_ne h7
  have q8 : (x == [115, 117, 109]) = false := beq_false_of_ne h8
  have q9 : (x == [114, 111, 111, 116]) = false := beq_false_of_ne h9
  have q10 : (x == [119, 97, 121, 115]) = false := beq_false_of_ne h10
  have q11 : (x == [104, 97, 112, 112, 121]) = false := beq_false_of_ne h11
  have q12 : (x == [115, 116, 101, 112, 115]) = false := beq_false_of_ne h12
  have HC := Lib.hid (fun w' => fail_what n b pn pw w')
  have hg := (h.keep (two_below w (.cells #[.int .i64 n, .int .i64 b] 24) (.cells #[.int .i64 0, .int .i64 0, .string ⟨#[]⟩, .nilIface] 60))).what
  have HE := Lib.hid (fun w' (hb : Below w.heap.size w w') => h.keep hb)
  have BF := Lib.hid (box_facts w n b (.int .i64 0) (.int .i64 0) (.string ⟨#[]⟩) .nilIface _ rfl)
  obtain ⟨n', b', S, ev, hoc, hone⟩ := oc_form pn pw (n, b, Rp.what)
  rw [hoc] at HC ⊢
  have hst := fun W => run_store Tryz.prog W ⟨w.heap.size + 1, 3, none⟩ ev .plain hone
  clear hoc hone h
  go_enter Tryz.func59, Tryz.ntmps59
  go_wp2_with fail
  refine (HC.out _).mono ?_
  rintro e w2 ⟨rfl, hb⟩
  obtain ⟨k0, k1, B4, hb1⟩ := BF.out w2 (hb.mono (by simp))
  have HB2 := Lib.hid hb1
  have HB5 := Lib.hid B4
  clear hb hb1 B4 k0 k1
  obtain ⟨y0, y1, y2, y3, e0, e1, e2, e3⟩ := HB5.out.all
  have ef := HB5.out.free
  all_goals
    go_wp2
    refine bodyPost_ret (v := .agg #[.int .i64 n', .int .i64 b', str S, ev]) (ret_set4 rfl _ _ (w.heap.size + 1) _ _ _ _ rfl HB5.out) rfl ?_
    exact ⟨rfl, set4_below HB2.out (by omega) _ _ _ _⟩
theorem executeAlone_any (n b : Int) (x : Tx) (hN : Num n) (hB : Bas b) (pn pw : Addr) (w : World) (h : Env w pn pw) :
    Calls Tryz.prog 59 #[dsk n b, str x] w fun e w' => e = .returned (oc pn pw (aloneF n b x)) ∧ Below w.heap.size w w' := by
  unfold aloneF
  by_cases h0 : x = [114, 101, 118, 101, 114, 115, 101]
  · rw [if_pos h0]
    exact alone_reverse n b x hN hB  h0 pn pw w h
  by_cases h1 : x = [117, 112]
  · rw [if_neg h0, if_pos h1]
    exact alone_up n b x hN hB h0 h1 pn pw w h
  by_cases h2 : x = [100, 111, 119, 110]
  · rw [if_neg h0, if_neg h1, if_pos h2]
    exact alone_down n b x hN hB h0 h1 h2 pn pw w h
  by_cases h3 : x = [115, 116, 101, 112]
  · rw [if_neg h0, if_neg h1, if_neg h2, if_pos h3]
    exact alone_step n b x hN hB h0 h1 h2 h3 pn pw w h
  by_cases h4 : x = [115, 104, 111, 114, 116]
  · rw [if_neg h0, if_neg h1, if_neg h2, if_neg h3, if_pos h4]
    exact alone_short n b x hN hB h0 h1 h2 h3 h4 pn pw w h
  by_cases h5 : x = [110, 101, 120, 116]
  · rw [if_neg h0, if_neg h1, if_neg h2, if_neg h3, if_neg h4, if_pos h5]
    exact alone_next n b x hN hB h0 h1 h2 h3 h4 h5 pn pw w h
  by_cases h6 : x = [115, 104, 111, 119]
  · rw [if_neg h0, if_neg h1, if_neg h2, if_neg h3, if_neg h4, if_neg h5, if_pos h6]
    exact alone_show n b x hN hB h0 h1 h2 h3 h4 h5 h6 pn pw w h
  by_cases h7 : x = [100, 105, 103, 105, 116, 115]
  · rw [if_neg h0, if_neg h1, if_neg h2, if_neg h3, if_neg h4, if_neg h5, if_neg h6, if_pos h7]
    exact alone_digits n b x hN hB h0 h1 h2 h3 h4 h5 h6 h7 pn pw w h
  by_cases h8 : x = [115, 117, 109]
  · rw [if_neg h0, if_neg h1, if_neg h2, if_neg h3, if_neg h4, if_neg h5, if_neg h6, if_neg h7, if_pos h8]
    exact alone_sum n b x hN hB h0 h1 h2 h3 h4 h5 h6 h7 h8 pn pw w h
  by_cases h9 : x = [114, 111, 111, 116]
  · rw [if_neg h0, if_neg h1, if_neg h2, if_neg h3, if_neg h4, if_neg h5, if_neg h6, if_neg h7, if_neg h8, if_pos h9]
    exact alone_root n b x hN hB h0 h1 h2 h3 h4 h5 h6 h7 h8 h9 pn pw w h
  by_cases h10 : x = [119, 97, 121, 115]
  · rw [if_neg h0, if_neg h1, if_neg h2, if_neg h3, if_neg h4, if_neg h5, if_neg h6, if_neg h7, if_neg h8, if_neg h9, if_pos h10]
    exact alone_ways n b x hN hB h0 h1 h2 h3 h4 h5 h6 h7 h8 h9 h10 pn pw w h
  by_cases h11 : x = [104, 97, 112, 112, 121]
  · rw [if_neg h0, if_neg h1, if_neg h2, if_neg h3, if_neg h4, if_neg h5, if_neg h6, if_neg h7, if_neg h8, if_neg h9, if_neg h10, if_pos h11]
    exact alone_happy n b x hN hB h0 h1 h2 h3 h4 h5 h6 h7 h8 h9 h10 h11 pn pw w h
  by_cases h12 : x = [115, 116, 101, 112, 115]
  · rw [if_neg h0, if_neg h1, if_neg h2, if_neg h3, if_neg h4, if_neg h5, if_neg h6, if_neg h7, if_neg h8, if_neg h9, if_neg h10, if_neg h11, if_pos h12]
    exact alone_steps n b x hN hB h0 h1 h2 h3 h4 h5 h6 h7 h8 h9 h10 h11 h12 pn pw w h
  rw [if_neg h0, if_neg h1, if_neg h2, if_neg h3, if_neg h4, if_neg h5, if_neg h6, if_neg h7, if_neg h8, if_neg h9, if_neg h10, if_neg h11, if_neg h12]
  exact alone_none n b x h0 h1 h2 h3 h4 h5 h6 h7 h8 h9 h10 h11 h12 pn pw w h

end Go.Proofs.YtlbjeiaihenjkaaGreatDoor
