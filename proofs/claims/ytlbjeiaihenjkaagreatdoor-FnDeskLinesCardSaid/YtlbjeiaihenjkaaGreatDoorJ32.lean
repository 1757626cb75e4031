/-
  Joint text of CI: what each proves stands ahead of it.
-/
import Derived.Test.YtlbjeiaihenjkaaGreatDoorJ31
/- from CI: Lines of two words whose second one is a number: the program.  -/
namespace Go.Proofs.YtlbjeiaihenjkaaGreatDoor
open Go.RowKit
set_option linter.unusedVariables false
set_option linter.unusedSimpArgs false
set_option maxRecDepth 100000

set_option maxHeartbeats 4000000 in
theorem num_base1 (n b k : Int) (x y : Tx) (hN : Num n) (hB : Bas b) (hK : Bas k) (hy : y.length ≤ 1000000) (hp : RParse 10 y = some k) (hk : k ≤ 999999)  (hx : x = [98, 97, 115, 101]) (pn pw : Addr) (w : World) (h : Env w pn pw) :
    Calls Tryz.prog 130 #[dsk n b, str x, str y] w fun e w' => e = .returned (oc pn pw (n, k, Rp.say [111, 107])) ∧ Below w.heap.size w w' := by
  have q0 : (x == [98, 97, 115, 101]) = true := by rw [hx]; rfl
  clear  hx
  have HP := Lib.hid (fun w' => impl_ParseNumber ⟨y.toArray⟩ 10 w' (by rw [ba_sz]; omega))
  rw [ba_of, hp] at HP
  have hk' : ¬ (999999 : Int) < k := by omega
  have hk0 := (parse_rng hp).1.1
  have HC := Lib.hid (fun w' (hw : Env w' pn pw) => rebase_yes n b k hK pn pw w')
  have HE := Lib.hid (fun w' (hb : Below w.heap.size w w') => h.keep hb)
  have BF := Lib.hid (box_facts w n b (.int .i64 0) (.int .i64 0) (.string ⟨#[]⟩) .nilIface _ rfl)
  obtain ⟨n', b', S, ev, hoc, hone⟩ := oc_form pn pw (n, k, Rp.say [111, 107])
  rw [hoc] at HC ⊢
  have hst := fun W => run_store Tryz.prog W ⟨w.heap.size + 1, 3, none⟩ ev .plain hone
  clear hoc hone h hN hB hK hp hk hy
  go_enter Tryz.func130, Tryz.ntmps130
  go_wp2_with fail
  refine (HP.out _).mono ?_
  rintro e w1 ⟨rfl, hb⟩
  obtain ⟨k0, k1, B4, hb1⟩ := BF.out w1 (hb.mono (by simp))
  have HB1 := Lib.hid hb1
  have HB4 := Lib.hid B4
  have HE1 := Lib.hid (HE.out _ hb1)
  have HLT := Lib.hid (show w.heap.size + 1 < w1.heap.size by have := hb.size; simp at this; omega)
  have HKK := Lib.hid (show ∀ w', Below w1.heap.size w1 w' → w'.cell? ⟨w.heap.size, 0, none⟩ = some (.int .i64 n) ∧ w'.cell? ⟨w.heap.size, 1, none⟩ = some (.int .i64 b) from fun w' hb => ⟨(hb.cell (p := ⟨w.heap.size, 0, none⟩) (Nat.lt_trans (Nat.lt_succ_self _) HLT.out)).trans k0, (hb.cell (p := ⟨w.heap.size, 1, none⟩) (Nat.lt_trans (Nat.lt_succ_self _) HLT.out)).trans k1⟩)
  clear hb hb1 B4
  go_wp2_with fail
  refine (HC.out _ HE1.out).mono ?_
  rintro e w2 ⟨rfl, hb⟩
  have HB2 := Lib.hid (HB1.out.trans (hb.mono HB1.out.size))
  have HB5 := Lib.hid (HB4.out.keep hb HLT.out)
  clear hb
  obtain ⟨y0, y1, y2, y3, e0, e1, e2, e3⟩ := HB5.out.all
  have ef := HB5.out.free
  all_goals
    go_wp2
    refine bodyPost_ret (v := .agg #[.int .i64 n', .int .i64 b', str S, ev]) (ret_set4 rfl _ _ (w.heap.size + 1) _ _ _ _ rfl HB5.out) rfl ?_
    exact ⟨rfl, set4_below HB2.out (by omega) _ _ _ _⟩
set_option maxHeartbeats 4000000 in
theorem num_base0 (n b k : Int) (x y : Tx) (hN : Num n) (hB : Bas b) (hK : ¬ Bas k) (hy : y.length ≤ 1000000) (hp : RParse 10 y = some k) (hk : k ≤ 999999)  (hx : x = [98, 97, 115, 101]) (pn pw : Addr) (w : World) (h : Env w pn pw) :
    Calls Tryz.prog 130 #[dsk n b, str x, str y] w fun e w' => e = .returned (oc pn pw (n, b, Rp.no)) ∧ Below w.heap.size w w' := by
  have q0 : (x == [98, 97, 115, 101]) = true := by rw [hx]; rfl
  clear  hx
  have HP := Lib.hid (fun w' => impl_ParseNumber ⟨y.toArray⟩ 10 w' (by rw [ba_sz]; omega))
  rw [ba_of, hp] at HP
  have hk' : ¬ (999999 : Int) < k := by omega
  have hk0 := (parse_rng hp).1.1
  have HC := Lib.hid (fun w' (hw : Env w' pn pw) => rebase_no n b k hK pn pw w' hw)
  have HE := Lib.hid (fun w' (hb : Below w.heap.size w w') => h.keep hb)
  have BF := Lib.hid (box_facts w n b (.int .i64 0) (.int .i64 0) (.string ⟨#[]⟩) .nilIface _ rfl)
  obtain ⟨n', b', S, ev, hoc, hone⟩ := oc_form pn pw (n, b, Rp.no)
  rw [hoc] at HC ⊢
  have hst := fun W => run_store Tryz.prog W ⟨w.heap.size + 1, 3, none⟩ ev .plain hone
  clear hoc hone h hN hB hK hp hk hy
  go_enter Tryz.func130, Tryz.ntmps130
  go_wp2_with fail
  refine (HP.out _).mono ?_
  rintro e w1 ⟨rfl, hb⟩
  obtain ⟨k0, k1, B4, hb1⟩ := BF.out w1 (hb.mono (by simp))
  have HB1 := Lib.hid hb1
  have HB4 := Lib.hid B4
  have HE1 := Lib.hid (HE.out _ hb1)
  have HLT := Lib.hid (show w.heap.size + 1 < w1.heap.size by have := hb.size; simp at this; omega)
  have HKK := Lib.hid (show ∀ w', Below w1.heap.size w1 w' → w'.cell? ⟨w.heap.size, 0, none⟩ = some (.int .i64 n) ∧ w'.cell? ⟨w.heap.size, 1, none⟩ = some (.int .i64 b) from fun w' hb => ⟨(hb.cell (p := ⟨w.heap.size, 0, none⟩) (Nat.lt_trans (Nat.lt_succ_self _) HLT.out)).trans k0, (hb.cell (p := ⟨w.heap.size, 1, none⟩) (Nat.lt_trans (Nat.lt_succ_self _) HLT.out)).trans k1⟩)
  clear hb hb1 B4
  go_wp2_with fail
  refine (HC.out _ HE1.out).mono ?_
  rintro e w2 ⟨rfl, hb⟩
  have HB2 := Lib.hid (HB1.out.trans (hb.mono HB1.out.size))
  have HB5 := Lib.hid (HB4.out.keep hb HLT.out)
  clear hb
  obtain ⟨y0, y1, y2, y3, e0, e1, e2, e3⟩ := HB5.out.all
  have ef := HB5.out.free
  all_goals
    go_wp2
    refine bodyPost_ret (v := .agg #[.int .i64 n', .int .i64 b', str S, ev]) (ret_set4 rfl _ _ (w.heap.size + 1) _ _ _ _ rfl HB5.out) rfl ?_
    exact ⟨rfl, set4_below HB2.out (by omega) _ _ _ _⟩
set_option maxHeartbeats 4000000 in
theorem num_power (n b k : Int) (x y : Tx) (hN : Num n) (hB : Bas b) (hy : y.length ≤ 1000000) (hp : RParse 10 y = some k) (hk : k ≤ 999999) (h0 : ¬ x = [98, 97, 115, 101]) (hx : x = [112, 111, 119, 101, 114]) (pn pw : Addr) (w : World) (h : Env w pn pw) :
    Calls Tryz.prog 130 #[dsk n b, str x, str y] w fun e w' => e = .returned (oc pn pw (becF n b (if OK3 n b k 8 then some (V_PowerSum n b k) else none))) ∧ Below w.heap.size w w' := by
  have q0 : (x == [98, 97, 115, 101]) = false := beq_false_of_ne h0
  have q1 : (x == [112, 111, 119, 101, 114]) = true := by rw [hx]; rfl
  clear h0 hx
  have HP := Lib.hid (fun w' => impl_ParseNumber ⟨y.toArray⟩ 10 w' (by rw [ba_sz]; omega))
  rw [ba_of, hp] at HP
  have hk' : ¬ (999999 : Int) < k := by omega
  have hk0 := (parse_rng hp).1.1
  have HF' := Lib.hid (show ∀ w', Calls Tryz.prog 188 #[.int .i64 n, .int .i64 b, .int .i64 k] w' fun e w'' => e = .returned (.tuple #[.int .i64 (V_PowerSum n b k), .bool (OK3 n b k 8)]) ∧ Below w'.heap.size w' w'' from fun w' => impl_PowerSum n b k w')
  have HC := Lib.hid (show ∀ w', Env w' pn pw → Calls Tryz.prog 112 #[dsk n b, .int .i64 (V_PowerSum n b k), .bool (OK3 n b k 8)] w' fun e w'' => e = .returned (oc pn pw (becF n b (if OK3 n b k 8 then some (V_PowerSum n b k) else none))) ∧ Below w'.heap.size w' w'' from fun w' hw => by
    cases hok : OK3 n b k 8 with
    | true => exact become_yes n b _ (pow_rng (n := n) (b := b) (k := k) (if_pos hok)) hB pn pw w' hw
    | false => exact become_no n b _ pn pw w' hw)
  have HE := Lib.hid (fun w' (hb : Below w.heap.size w w') => h.keep hb)
  have BF := Lib.hid (box_facts w n b (.int .i64 0) (.int .i64 0) (.string ⟨#[]⟩) .nilIface _ rfl)
  obtain ⟨n', b', S, ev, hoc, hone⟩ := oc_form pn pw (becF n b (if OK3 n b k 8 then some (V_PowerSum n b k) else none))
  rw [hoc] at HC ⊢
  have hst := fun W => run_store Tryz.prog W ⟨w.heap.size + 1, 3, none⟩ ev .plain hone
  obtain ⟨z, hz⟩ : ∃ z, z = V_PowerSum n b k := ⟨_, rfl⟩
  obtain ⟨ok, hok⟩ : ∃ ok, ok = OK3 n b k 8 := ⟨_, rfl⟩
  rw [← hz, ← hok] at HF' HC
  clear hz hok hoc hone h hN hB hp hk hy
  go_enter Tryz.func130, Tryz.ntmps130
  go_wp2_with fail
  refine (HP.out _).mono ?_
  rintro e w1 ⟨rfl, hb⟩
  obtain ⟨k0, k1, B4, hb1⟩ := BF.out w1 (hb.mono (by simp))
  have HB1 := Lib.hid hb1
  have HB4 := Lib.hid B4
  have HE1 := Lib.hid (HE.out _ hb1)
  have HLT := Lib.hid (show w.heap.size + 1 < w1.heap.size by have := hb.size; simp at this; omega)
  have HKK := Lib.hid (show ∀ w', Below w1.heap.size w1 w' → w'.cell? ⟨w.heap.size, 0, none⟩ = some (.int .i64 n) ∧ w'.cell? ⟨w.heap.size, 1, none⟩ = some (.int .i64 b) from fun w' hb => ⟨(hb.cell (p := ⟨w.heap.size, 0, none⟩) (Nat.lt_trans (Nat.lt_succ_self _) HLT.out)).trans k0, (hb.cell (p := ⟨w.heap.size, 1, none⟩) (Nat.lt_trans (Nat.lt_succ_self _) HLT.out)).trans k1⟩)
  clear hb hb1 B4
  go_wp2
  go_region_with (first
    | (go_at_call 188; refine (HF'.out _).mono ?_; rintro e w2 ⟨rfl, hb⟩; have HB6 := Lib.hid (HB1.out.trans ((Below.refl _ _).drew.trans (hb.mono HB1.out.size))); have HB7 := Lib.hid (HB4.out.keep ((Below.refl _ _).drew.trans hb) HLT.out); have HE2 := Lib.hid (HE.out _ HB6.out); have HLT2 := Lib.hid (Nat.lt_of_lt_of_le HLT.out hb.size); obtain ⟨k2, k3⟩ := HKK.out w2 ((Below.refl _ _).drew.trans hb); clear hb)
    | (go_at_call 112; refine (HC.out _ HE2.out).mono ?_; rintro e w3 ⟨rfl, hb⟩; have HB2 := Lib.hid (HB6.out.trans (hb.mono HB6.out.size)); have HB5 := Lib.hid (HB7.out.keep hb HLT2.out); obtain ⟨y0, y1, y2, y3, e0, e1, e2, e3⟩ := HB5.out.all; have ef := HB5.out.free; clear hb))
  all_goals
    go_wp2
    refine bodyPost_ret (v := .agg #[.int .i64 n', .int .i64 b', str S, ev]) (ret_set4 rfl _ _ (w.heap.size + 1) _ _ _ _ rfl HB5.out) rfl ?_
    exact ⟨rfl, set4_below HB2.out (by omega) _ _ _ _⟩
set_option maxHeartbeats 4000000 in
theorem num_run (n b k : Int) (x y : Tx) (hN : Num n) (hB : Bas b) (hy : y.length ≤ 1000000) (hp : RParse 10 y = some k) (hk : k ≤ 999999) (h0 : ¬ x = [98, 97, 115, 101]) (h1 : ¬ x = [112, 111, 119, 101, 114]) (hx : x = [114, 117, 110]) (pn pw : Addr) (w : World) (h : Env w pn pw) :
    Calls Tryz.prog 130 #[dsk n b, str x, str y] w fun e w' => e = .returned (oc pn pw (lstF n b (OK3 n b k 4) (LF_PowerRun n b k))) ∧ Below w.heap.size w w' := by
  have q0 : (x == [98, 97, 115, 101]) = false := beq_false_of_ne h0
  have q1 : (x == [112, 111, 119, 101, 114]) = false := beq_false_of_ne h1
  have q2 : (x == [114, 117, 110]) = true := by rw [hx]; rfl
  clear h0 h1 hx
  have HP := Lib.hid (fun w' => impl_ParseNumber ⟨y.toArray⟩ 10 w' (by rw [ba_sz]; omega))
  rw [ba_of, hp] at HP
  have hk' : ¬ (999999 : Int) < k := by omega
  have hk0 := (parse_rng hp).1.1
  have HF' := Lib.hid (fun w' => impl_PowerRun n b k w')
  have HC := Lib.hid (fun v D w' (hw : Env w' pn pw) hv => list_loop n b (OK3 n b k 4) (LF_PowerRun n b k) (run_nice n b k) v D pn pw w' hw hv)
  have HE := Lib.hid (fun w' (hb : Below w.heap.size w w') => h.keep hb)
  have BF := Lib.hid (box_facts w n b (.int .i64 0) (.int .i64 0) (.string ⟨#[]⟩) .nilIface _ rfl)
  obtain ⟨n', b', S, ev, hoc, hone⟩ := oc_form pn pw (lstF n b (OK3 n b k 4) (LF_PowerRun n b k))
  rw [hoc] at HC ⊢
  have hst := fun W => run_store Tryz.prog W ⟨w.heap.size + 1, 3, none⟩ ev .plain hone
  obtain ⟨ls, hls⟩ : ∃ ls, ls = LF_PowerRun n b k := ⟨_, rfl⟩
  obtain ⟨ok, hok⟩ : ∃ ok, ok = OK3 n b k 4 := ⟨_, rfl⟩
  rw [← hls, ← hok] at HF' HC
  clear hls hok hoc hone h hN hB hp hk hy
  go_enter Tryz.func130, Tryz.ntmps130
  go_wp2_with fail
  refine (HP.out _).mono ?_
  rintro e w1 ⟨rfl, hb⟩
  obtain ⟨k0, k1, B4, hb1⟩ := BF.out w1 (hb.mono (by simp))
  have HB1 := Lib.hid hb1
  have HB4 := Lib.hid B4
  have HE1 := Lib.hid (HE.out _ hb1)
  have HLT := Lib.hid (show w.heap.size + 1 < w1.heap.size by have := hb.size; simp at this; omega)
  have HKK := Lib.hid (show ∀ w', Below w1.heap.size w1 w' → w'.cell? ⟨w.heap.size, 0, none⟩ = some (.int .i64 n) ∧ w'.cell? ⟨w.heap.size, 1, none⟩ = some (.int .i64 b) from fun w' hb => ⟨(hb.cell (p := ⟨w.heap.size, 0, none⟩) (Nat.lt_trans (Nat.lt_succ_self _) HLT.out)).trans k0, (hb.cell (p := ⟨w.heap.size, 1, none⟩) (Nat.lt_trans (Nat.lt_succ_self _) HLT.out)).trans k1⟩)
  clear hb hb1 B4
  go_wp2
  go_region_with (first
    | (go_at_call 189; refine (HF'.out _).mono ?_; rintro e w2 ⟨v1, rfl, hr, hb⟩; have HR1 := Lib.hid hr; clear hr; have HB6 := Lib.hid (HB1.out.trans ((Below.refl _ _).drew.trans (hb.mono HB1.out.size))); have HB7 := Lib.hid (HB4.out.keep ((Below.refl _ _).drew.trans hb) HLT.out); have HE2 := Lib.hid (HE.out _ HB6.out); have HLT2 := Lib.hid (Nat.lt_of_lt_of_le HLT.out hb.size); obtain ⟨k2, k3⟩ := HKK.out w2 ((Below.refl _ _).drew.trans hb); clear hb)
    | (go_at_call 119; refine (HC.out _ _ _ HE2.out HR1.out).mono ?_; rintro e w3 ⟨rfl, hb⟩; have HB2 := Lib.hid (HB6.out.trans (hb.mono HB6.out.size)); have HB5 := Lib.hid (HB7.out.keep hb HLT2.out); obtain ⟨y0, y1, y2, y3, e0, e1, e2, e3⟩ := HB5.out.all; have ef := HB5.out.free; clear hb))
  all_goals
    go_wp2
    refine bodyPost_ret (v := .agg #[.int .i64 n', .int .i64 b', str S, ev]) (ret_set4 rfl _ _ (w.heap.size + 1) _ _ _ _ rfl HB5.out) rfl ?_
    exact ⟨rfl, set4_below HB2.out (by omega) _ _ _ _⟩
set_option maxHeartbeats 4000000 in
theorem num_own (n b k : Int) (x y : Tx) (hN : Num n) (hB : Bas b) (hy : y.length ≤ 1000000) (hp : RParse 10 y = some k) (hk : k ≤ 999999) (h0 : ¬ x = [98, 97, 115, 101]) (h1 : ¬ x = [112, 111, 119, 101, 114]) (h2 : ¬ x = [114, 117, 110]) (hx : x = [111, 119, 110]) (pn pw : Addr) (w : World) (h : Env w pn pw) :
    Calls Tryz.prog 130 #[dsk n b, str x, str y] w fun e w' => e = .returned (oc pn pw (lstF n b (OKO b k) (LF_OwnPowers b k))) ∧ Below w.heap.size w w' := by
  have q0 : (x == [98, 97, 115, 101]) = false := beq_false_of_ne h0
  have q1 : (x == [112, 111, 119, 101, 114]) = false := beq_false_of_ne h1
  have q2 : (x == [114, 117, 110]) = false := beq_false_of_ne h2
  have q3 : (x == [111, 119, 110]) = true := by rw [hx]; rfl
  clear h0 h1 h2 hx
  have HP := Lib.hid (fun w' => impl_ParseNumber ⟨y.toArray⟩ 10 w' (by rw [ba_sz]; omega))
  rw [ba_of, hp] at HP
  have hk' : ¬ (999999 : Int) < k := by omega
  have hk0 := (parse_rng hp).1.1
  have HF' := Lib.hid (fun w' => impl_OwnPowers b k w')
  have HC := Lib.hid (fun v D w' (hw : Env w' pn pw) hv => list_loop n b (OKO b k) (LF_OwnPowers b k) (own_nice b k) v D pn pw w' hw hv)
  have HE := Lib.hid (fun w' (hb : Below w.heap.size w w') => h.keep hb)
  have BF := Lib.hid (box_facts w n b (.int .i64 0) (.int .i64 0) (.string ⟨#[]⟩) .nilIface _ rfl)
  obtain ⟨n', b', S, ev, hoc, hone⟩ := oc_form pn pw (lstF n b (OKO b k) (LF_OwnPowers b k))
  rw [hoc] at HC ⊢
  have hst := fun W => run_store Tryz.prog W ⟨w.heap.size + 1, 3, none⟩ ev .plain hone
  obtain ⟨ls, hls⟩ : ∃ ls, ls = LF_OwnPowers b k := ⟨_, rfl⟩
  obtain ⟨ok, hok⟩ : ∃ ok, ok = OKO b k := ⟨_, rfl⟩
  rw [← hls, ← hok] at HF' HC
  clear hls hok hoc hone h hN hB hp hk hy
  go_enter Tryz.func130, Tryz.ntmps130
  go_wp2_with fail
  refine (HP.out _).mono ?_
  rintro e w1 ⟨rfl, hb⟩
  obtain ⟨k0, k1, B4, hb1⟩ := BF.out w1 (hb.mono (by simp))
  have HB1 := Lib.hid hb1
  have HB4 := Lib.hid B4
  have HE1 := Lib.hid (HE.out _ hb1)
  have HLT := Lib.hid (show w.heap.size + 1 < w1.heap.size by have := hb.size; simp at this; omega)
  have HKK := Lib.hid (show ∀ w', Below w1.heap.size w1 w' → w'.cell? ⟨w.heap.size, 0, none⟩ = some (.int .i64 n) ∧ w'.cell? ⟨w.heap.size, 1, none⟩ = some (.int .i64 b) from fun w' hb => ⟨(hb.cell (p := ⟨w.heap.size, 0, none⟩) (Nat.lt_trans (Nat.lt_succ_self _) HLT.out)).trans k0, (hb.cell (p := ⟨w.heap.size, 1, none⟩) (Nat.lt_trans (Nat.lt_succ_self _) HLT.out)).trans k1⟩)
  clear hb hb1 B4
  go_wp2
  go_region_with (first
    | (go_at_call 190; refine (HF'.out _).mono ?_; rintro e w2 ⟨v1, rfl, hr, hb⟩; have HR1 := Lib.hid hr; clear hr; have HB6 := Lib.hid (HB1.out.trans ((Below.refl _ _).drew.trans (hb.mono HB1.out.size))); have HB7 := Lib.hid (HB4.out.keep ((Below.refl _ _).drew.trans hb) HLT.out); have HE2 := Lib.hid (HE.out _ HB6.out); have HLT2 := Lib.hid (Nat.lt_of_lt_of_le HLT.out hb.size); obtain ⟨k2, k3⟩ := HKK.out w2 ((Below.refl _ _).drew.trans hb); clear hb)
    | (go_at_call 119; refine (HC.out _ _ _ HE2.out HR1.out).mono ?_; rintro e w3 ⟨rfl, hb⟩; have HB2 := Lib.hid (HB6.out.trans (hb.mono HB6.out.size)); have HB5 := Lib.hid (HB7.out.keep hb HLT2.out); obtain ⟨y0, y1, y2, y3, e0, e1, e2, e3⟩ := HB5.out.all; have ef := HB5.out.free; clear hb))
  all_goals
    go_wp2
    refine bodyPost_ret (v := .agg #[.int .i64 n', .int .i64 b', str S, ev]) (ret_set4 rfl _ _ (w.heap.size + 1) _ _ _ _ rfl HB5.out) rfl ?_
    exact ⟨rfl, set4_below HB2.out (by omega) _ _ _ _⟩
set_option maxHeartbeats 4000000 in
theorem num_word (n b k : Int) (x y : Tx) (hN : Num n) (hB : Bas b) (hy : y.length ≤ 1000000) (hp : RParse 10 y = some k) (hk : k ≤ 999999) (h0 : ¬ x = [98, 97, 115, 101]) (h1 : ¬ x = [112, 111, 119, 101, 114]) (h2 : ¬ x = [114, 117, 110]) (h3 : ¬ x = [111, 119, 110]) (hx : x = [119, 111, 114, 100]) (pn pw : Addr) (w : World) (h : Env w pn pw) :
    Calls Tryz.prog 130 #[dsk n b, str x, str y] w fun e w' => e = .returned (oc pn pw (sayF n b (RWd n k))) ∧ Below w.heap.size w w' := by
  have q0 : (x == [98, 97, 115, 101]) = false := beq_false_of_ne h0
  have q1 : (x == [112, 111, 119, 101, 114]) = false := beq_false_of_ne h1
  have q2 : (x == [114, 117, 110]) = false := beq_false_of_ne h2
  have q3 : (x == [111, 119, 110]) = false := beq_false_of_ne h3
  have q4 : (x == [119, 111, 114, 100]) = true := by rw [hx]; rfl
  clear h0 h1 h2 h3 hx
  have HP := Lib.hid (fun w' => impl_ParseNumber ⟨y.toArray⟩ 10 w' (by rw [ba_sz]; omega))
  rw [ba_of, hp] at HP
  have hk' : ¬ (999999 : Int) < k := by omega
  have hk0 := (parse_rng hp).1.1
  have HF' := Lib.hid (show ∀ w', Calls Tryz.prog 191 #[.int .i64 n, .int .i64 k] w' fun e w'' => e = .returned (.tuple #[str ((RWd n k).getD []), .bool (RWd n k).isSome]) ∧ Below w'.heap.size w' w'' from fun w' => impl_ParityWord n k w')
  have HC := Lib.hid (fun w' (hw : Env w' pn pw) => say_any n b (RWd n k) pn pw w' hw)
  have HE := Lib.hid (fun w' (hb : Below w.heap.size w w') => h.keep hb)
  have BF := Lib.hid (box_facts w n b (.int .i64 0) (.int .i64 0) (.string ⟨#[]⟩) .nilIface _ rfl)
  obtain ⟨n', b', S, ev, hoc, hone⟩ := oc_form pn pw (sayF n b (RWd n k))
  rw [hoc] at HC ⊢
  have hst := fun W => run_store Tryz.prog W ⟨w.heap.size + 1, 3, none⟩ ev .plain hone
  obtain ⟨T, hT⟩ : ∃ T, T = (RWd n k).getD [] := ⟨_, rfl⟩
  obtain ⟨ok, hok⟩ : ∃ ok, ok = (RWd n k).isSome := ⟨_, rfl⟩
  rw [← hT, ← hok] at HF' HC
  clear hT hok hoc hone h hN hB hp hk hy
  go_enter Tryz.func130, Tryz.ntmps130
  go_wp2_with fail
  refine (HP.out _).mono ?_
  rintro e w1 ⟨rfl, hb⟩
  obtain ⟨k0, k1, B4, hb1⟩ := BF.out w1 (hb.mono (by simp))
  have HB1 := Lib.hid hb1
  have HB4 := Lib.hid B4
  have HE1 := Lib.hid (HE.out _ hb1)
  have HLT := Lib.hid (show w.heap.size + 1 < w1.heap.size by have := hb.size; simp at this; omega)
  have HKK := Lib.hid (show ∀ w', Below w1.heap.size w1 w' → w'.cell? ⟨w.heap.size, 0, none⟩ = some (.int .i64 n) ∧ w'.cell? ⟨w.heap.size, 1, none⟩ = some (.int .i64 b) from fun w' hb => ⟨(hb.cell (p := ⟨w.heap.size, 0, none⟩) (Nat.lt_trans (Nat.lt_succ_self _) HLT.out)).trans k0, (hb.cell (p := ⟨w.heap.size, 1, none⟩) (Nat.lt_trans (Nat.lt_succ_self _) HLT.out)).trans k1⟩)
  clear hb hb1 B4
  go_wp2
  go_region_with (first
    | (go_at_call 191; refine (HF'.out _).mono ?_; rintro e w2 ⟨rfl, hb⟩; have HB6 := Lib.hid (HB1.out.trans ((Below.refl _ _).drew.trans (hb.mono HB1.out.size))); have HB7 := Lib.hid (HB4.out.keep ((Below.refl _ _).drew.trans hb) HLT.out); have HE2 := Lib.hid (HE.out _ HB6.out); have HLT2 := Lib.hid (Nat.lt_of_lt_of_le HLT.out hb.size); obtain ⟨k2, k3⟩ := HKK.out w2 ((Below.refl _ _).drew.trans hb); clear hb)
    | (go_at_call 118; refine (HC.out _ HE2.out).mono ?_; rintro e w3 ⟨rfl, hb⟩; have HB2 := Lib.hid (HB6.out.trans (hb.mono HB6.out.size)); have HB5 := Lib.hid (HB7.out.keep hb HLT2.out); obtain ⟨y0, y1, y2, y3, e0, e1, e2, e3⟩ := HB5.out.all; have ef := HB5.out.free; clear hb))
  all_goals
    go_wp2
    refine bodyPost_ret (v := .agg #[.int .i64 n', .int .i64 b', str S, ev]) (ret_set4 rfl _ _ (w.heap.size + 1) _ _ _ _ rfl HB5.out) rfl ?_
    exact ⟨rfl, set4_below HB2.out (by omega) _ _ _ _⟩
theorem num_none (n b k : Int) (x y : Tx) (hy : y.length ≤ 1000000) (hp : RParse 10 y = some k) (hk : k ≤ 999999) (h0 : ¬ x = [98, 97, 115, 101]) (h1 : ¬ x = [112, 111, 119, 101, 114]) (h2 : ¬ x = [114, 117, 110]) (h3 : ¬ x = [111, 119, 110]) (h4 : ¬ x = [119, 111, 114, 100]) (pn pw : Addr) (w : World) (h : Env w pn pw) :
    Calls Tryz.prog 130 #[dsk n b, str x, str y] w fun e w' => e = .returned (oc pn pw (n, b, Rp.what)) ∧ Below w.heap.size w w' := by
  have q0 : (x == [98, 97, 115, 101]) = false := beq_false_of_ne h0
  have q1 : (x == [112, 111, 119, 101, 114]) = false := beq_false_of_ne h1
  have q2 : (x == [114, 117, 110]) = false := beq_false_of_ne h2
  have q3 : (x == [111, 119, 110]) = false := beq_false_of_ne h3
  have q4 : (x == [119, 111, 114, 100]) = false := beq_false_of_ne h4
  clear h0 h1 h2 h3 h4
  have HP := Lib.hid (fun w' => impl_ParseNumber ⟨y.toArray⟩ 10 w' (by rw [ba_sz]; omega))
  rw [ba_of, hp] at HP
  have hk' : ¬ (999999 : Int) < k := by omega
  have hk0 := (parse_rng hp).1.1
  have HC := Lib.hid (fun w' => fail_what n b pn pw w')
  have HE := Lib.hid (fun w' (hb : Below w.heap.size w w') => h.keep hb)
  have BF := Lib.hid (box_facts w n b (.int .i64 0) (.int .i64 0) (.string ⟨#[]⟩) .nilIface _ rfl)
  obtain ⟨n', b', S, ev, hoc, hone⟩ := oc_form pn pw (n, b, Rp.what)
  rw [hoc] at HC ⊢
  have hst := fun W => run_store Tryz.prog W ⟨w.heap.size + 1, 3, none⟩ ev .plain hone
  clear hoc hone h hp hk hy
  go_enter Tryz.func130, Tryz.ntmps130
  go_wp2_with fail
  refine (HP.out _).mono ?_
  rintro e w1 ⟨rfl, hb⟩
  obtain ⟨k0, k1, B4, hb1⟩ := BF.out w1 (hb.mono (by simp))
  have HB1 := Lib.hid hb1
  have HB4 := Lib.hid B4
  have HE1 := Lib.hid (HE.out _ hb1)
  have HLT := Lib.hid (show w.heap.size + 1 < w1.heap.size by have := hb.size; simp at this; omega)
  have HKK := Lib.hid (show ∀ w', Below w1.heap.size w1 w' → w'.cell? ⟨w.heap.size, 0, none⟩ = some (.int .i64 n) ∧ w'.cell? ⟨w.heap.size, 1, none⟩ = some (.int .i64 b) from fun w' hb => ⟨(hb.cell (p := ⟨w.heap.size, 0, none⟩) (Nat.lt_trans (Nat.lt_succ_self _) HLT.out)).trans k0, (hb.cell (p := ⟨w.heap.size, 1, none⟩) (Nat.lt_trans (Nat.lt_succ_self _) HLT.out)).trans k1⟩)
  clear hb hb1 B4
  have g0 := HE1.out.what
  go_wp2_with fail
  refine (HC.out _).mono ?_
  rintro e w2 ⟨rfl, hb⟩
  have HB2 := Lib.hid (HB1.out.trans (hb.mono HB1.out.size))
  have HB5 := Lib.hid (HB4.out.keep hb HLT.out)
  clear hb
  obtain ⟨y0, y1, y2, y3, e0, e1, e2, e3⟩ := HB5.out.all
  have ef := HB5.out.free
  all_goals
    go_wp2
    refine bodyPost_ret (v := .agg #[.int .i64 n', .int .i64 b', str S, ev]) (ret_set4 rfl _ _ (w.heap.size + 1) _ _ _ _ rfl HB5.out) rfl ?_
    exact ⟨rfl, set4_below HB2.out (by omega) _ _ _ _⟩
theorem num_big (n b k : Int) (x y : Tx) (hy : y.length ≤ 1000000) (hp : RParse 10 y = some k) (hk : ¬ k ≤ 999999) (pn pw : Addr) (w : World) (h : Env w pn pw) :
    Calls Tryz.prog 130 #[dsk n b, str x, str y] w fun e w' => e = .returned (oc pn pw (n, b, Rp.what)) ∧ Below w.heap.size w w' := by
  have HP := Lib.hid (fun w' => impl_ParseNumber ⟨y.toArray⟩ 10 w' (by rw [ba_sz]; omega))
  rw [ba_of, hp] at HP
  have hk' : (999999 : Int) < k := by omega
  have HC := Lib.hid (fun w' => fail_what n b pn pw w')
  have HE := Lib.hid (fun w' (hb : Below w.heap.size w w') => h.keep hb)
  have BF := Lib.hid (box_facts w n b (.int .i64 0) (.int .i64 0) (.string ⟨#[]⟩) .nilIface _ rfl)
  obtain ⟨n', b', S, ev, hoc, hone⟩ := oc_form pn pw (n, b, Rp.what)
  rw [hoc] at HC ⊢
  have hst := fun W => run_store Tryz.prog W ⟨w.heap.size + 1, 3, none⟩ ev .plain hone
  clear hoc hone h hp hk hy
  go_enter Tryz.func130, Tryz.ntmps130
  go_wp2_with fail
  refine (HP.out _).mono ?_
  rintro e w1 ⟨rfl, hb⟩
  obtain ⟨k0, k1, B4, hb1⟩ := BF.out w1 (hb.mono (by simp))
  have HB1 := Lib.hid hb1
  have HB4 := Lib.hid B4
  have HE1 := Lib.hid (HE.out _ hb1)
  have HLT := Lib.hid (show w.heap.size + 1 < w1.heap.size by have := hb.size; simp at this; omega)
  have HKK := Lib.hid (show ∀ w', Below w1.heap.size w1 w' → w'.cell? ⟨w.heap.size, 0, none⟩ = some (.int .i64 n) ∧ w'.cell? ⟨w.heap.size, 1, none⟩ = some (.int .i64 b) from fun w' hb => ⟨(hb.cell (p := ⟨w.heap.size, 0, none⟩) (Nat.lt_trans (Nat.lt_succ_self _) HLT.out)).trans k0, (hb.cell (p := ⟨w.heap.size, 1, none⟩) (Nat.lt_trans (Nat.lt_succ_self _) HLT.out)).trans k1⟩)
  clear hb hb1 B4
  have g0 := HE1.out.what
  go_wp2_with fail
  refine (HC.out _).mono ?_
  rintro e w2 ⟨rfl, hb⟩
  have HB2 := Lib.hid (HB1.out.trans (hb.mono HB1.out.size))
  have HB5 := Lib.hid (HB4.out.keep hb HLT.out)
  clear hb
  obtain ⟨y0, y1, y2, y3, e0, e1, e2, e3⟩ := HB5.out.all
  have ef := HB5.out.free
  all_goals
    go_wp2
    refine bodyPost_ret (v := .agg #[.int .i64 n', .int .i64 b', str S, ev]) (ret_set4 rfl _ _ (w.heap.size + 1) _ _ _ _ rfl HB5.out) rfl ?_
    exact ⟨rfl, set4_below HB2.out (by omega) _ _ _ _⟩
theorem num_bad (n b : Int) (x y : Tx) (hy : y.length ≤ 1000000) (hp : RParse 10 y = none) (pn pw : Addr) (w : World) (h : Env w pn pw) :
    Calls Tryz.prog 130 #[dsk n b, str x, str y] w fun e w' => e = .returned (oc pn pw (n, b, Rp.what)) ∧ Below w.heap.size w w' := by
  have HP := Lib.hid (fun w' => impl_ParseNumber ⟨y.toArray⟩ 10 w' (by rw [ba_sz]; omega))
  rw [ba_of, hp] at HP
  have HC := Lib.hid (fun w' => fail_what n b pn pw w')
  have HE := Lib.hid (fun w' (hb : Below w.heap.size w w') => h.keep hb)
  have BF := Lib.hid (box_facts w n b (.int .i64 0) (.int .i64 0) (.string ⟨#[]⟩) .nilIface _ rfl)
  obtain ⟨n', b', S, ev, hoc, hone⟩ := oc_form pn pw (n, b, Rp.what)
  rw [hoc] at HC ⊢
  have hst := fun W => run_store Tryz.prog W ⟨w.heap.size + 1, 3, none⟩ ev .plain hone
  clear hoc hone h hp hy
  go_enter Tryz.func130, Tryz.ntmps130
  go_wp2_with fail
  refine (HP.out _).mono ?_
  rintro e w1 ⟨rfl, hb⟩
  obtain ⟨k0, k1, B4, hb1⟩ := BF.out w1 (hb.mono (by simp))
  have HB1 := Lib.hid hb1
  have HB4 := Lib.hid B4
  have HE1 := Lib.hid (HE.out _ hb1)
  have HLT := Lib.hid (show w.heap.size + 1 < w1.heap.size by have := hb.size; simp at this; omega)
  have HKK := Lib.hid (show ∀ w', Below w1.heap.size w1 w' → w'.cell? ⟨w.heap.size, 0, none⟩ = some (.int .i64 n) ∧ w'.cell? ⟨w.heap.size, 1, none⟩ = some (.int .i64 b) from fun w' hb => ⟨(hb.cell (p := ⟨w.heap.size, 0, none⟩) (Nat.lt_trans (Nat.lt_succ_self _) HLT.out)).trans k0, (hb.cell (p := ⟨w.heap.size, 1, none⟩) (Nat.lt_trans (Nat.lt_succ_self _) HLT.out)).trans k1⟩)
  clear hb hb1 B4
  have g0 := HE1.out.what
  go_wp2_with fail
  refine (HC.out _).mono ?_
  rintro e w2 ⟨rfl, hb⟩
  have HB2 := Lib.hid (HB1.out.trans (hb.mono HB1.out.size))
  have HB5 := Lib.hid (HB4.out.keep hb HLT.out)
  clear hb
  obtain ⟨y0, y1, y2, y3, e0, e1, e2, e3⟩ := HB5.out.all
  have ef := HB5.out.free
  all_goals
    go_wp2
    refine bodyPost_ret (v := .agg #[.int .i64 n', .int .i64 b', str S, ev]) (ret_set4 rfl _ _ (w.heap.size + 1) _ _ _ _ rfl HB5.out) rfl ?_
    exact ⟨rfl, set4_below HB2.out (by omega) _ _ _ _⟩

theorem withNumber_any (n b : Int) (x y : Tx) (hN : Num n) (hB : Bas b) (hy : y.length ≤ 1000000) (pn pw : Addr) (w : World) (h : Env w pn pw) :
    Calls Tryz.prog 130 #[dsk n b, str x, str y] w fun e w' => e = .returned (oc pn pw (match rdN y with | some k => numF2 n b x k | none => (n, b, .what))) ∧ Below w.heap.size w w' := by
  cases hp : RParse 10 y with
  | none =>
    have e : rdN y = none := by unfold rdN; rw [hp]
    rw [e]
    exact num_bad n b x y hy hp pn pw w h
  | some k =>
    by_cases hk : k ≤ 999999
    · have e : rdN y = some k := by unfold rdN; rw [hp]; exact if_pos hk
      rw [e]
      show Calls _ _ _ w fun e w' => e = .returned (oc pn pw (numF2 n b x k)) ∧ Below w.heap.size w w'
      unfold numF2
      by_cases h0 : x = [98, 97, 115, 101]
      · rw [if_pos h0]
        by_cases hK : Bas k
        · rw [if_pos hK]; exact num_base1 n b k x y hN hB hK hy hp hk h0 pn pw w h
        · rw [if_neg hK]; exact num_base0 n b k x y hN hB hK hy hp hk h0 pn pw w h
      by_cases h1 : x = [112, 111, 119, 101, 114]
      · rw [if_neg h0, if_pos h1]
        exact num_power n b k x y hN hB hy hp hk h0 h1 pn pw w h
      by_cases h2 : x = [114, 117, 110]
      · rw [if_neg h0, if_neg h1, if_pos h2]
        exact num_run n b k x y hN hB hy hp hk h0 h1 h2 pn pw w h
      by_cases h3 : x = [111, 119, 110]
      · rw [if_neg h0, if_neg h1, if_neg h2, if_pos h3]
        exact num_own n b k x y hN hB hy hp hk h0 h1 h2 h3 pn pw w h
      by_cases h4 : x = [119, 111, 114, 100]
      · rw [if_neg h0, if_neg h1, if_neg h2, if_neg h3, if_pos h4]
        exact num_word n b k x y hN hB hy hp hk h0 h1 h2 h3 h4 pn pw w h
      rw [if_neg h0, if_neg h1, if_neg h2, if_neg h3, if_neg h4]
      exact num_none n b k x y hy hp hk h0 h1 h2 h3 h4 pn pw w h
    · have e : rdN y = none := by unfold rdN; rw [hp]; exact if_neg hk
      rw [e]
      exact num_big n b k x y hy hp hk pn pw w h

end Go.Proofs.YtlbjeiaihenjkaaGreatDoor
