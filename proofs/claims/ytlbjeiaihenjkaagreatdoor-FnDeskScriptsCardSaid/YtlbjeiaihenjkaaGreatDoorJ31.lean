/-
  Joint text of CF, CG: what each proves stands ahead of it.
-/
import Derived.Test.YtlbjeiaihenjkaaGreatDoorJ30
/- from CF: The desk's methods that judge, take, list and change the base.  -/
namespace Go.Proofs.YtlbjeiaihenjkaaGreatDoor
open Go.RowKit
set_option linter.unusedVariables false
set_option linter.unusedSimpArgs false
set_option maxRecDepth 100000

theorem judge_yes (n b : Int) (pn pw : Addr) (w : World) : Calls Tryz.prog 125 #[dsk n b, .bool true, .bool true] w fun e w' => e = .returned (oc pn pw (n, b, .say [121, 101, 115])) ∧ Below w.heap.size w w' := by
  have HC := Lib.hid (fun w' => say_yes n b [121, 101, 115] pn pw w')
  rw [show orD ([121, 101, 115] : Tx) = [121, 101, 115] from rfl] at HC
  have BF := Lib.hid (box_facts w n b (.int .i64 0) (.int .i64 0) (.string ⟨#[]⟩) .nilIface _ rfl)
  obtain ⟨n', b', S, ev, hoc, hone⟩ := oc_form pn pw (n, b, .say [121, 101, 115])
  rw [hoc] at HC ⊢
  have hst := fun W => run_store Tryz.prog W ⟨w.heap.size + 1, 3, none⟩ ev .plain hone
  clear hoc hone
  go_enter Tryz.func125, Tryz.ntmps125
  go_wp2_with fail
  refine (HC.out _).mono ?_
  rintro e w2 ⟨rfl, hb⟩
  obtain ⟨k0, k1, B4, hb1⟩ := BF.out w2 (hb.mono (by simp))
  have HB2 := Lib.hid hb1
  have HB5 := Lib.hid B4
  clear hb hb1 B4 k0 k1
  obtain ⟨y0, y1, y2, y3, e0, e1, e2, e3⟩ := HB5.out.all
  have ef := HB5.out.free
  go_wp2
  refine bodyPost_ret (v := .agg #[.int .i64 n', .int .i64 b', str S, ev]) (ret_set4 rfl _ _ (w.heap.size + 1) _ _ _ _ rfl HB5.out) rfl ?_
  exact ⟨rfl, set4_below HB2.out (by omega) _ _ _ _⟩
theorem judge_sad (n b : Int) (pn pw : Addr) (w : World) : Calls Tryz.prog 125 #[dsk n b, .bool false, .bool true] w fun e w' => e = .returned (oc pn pw (n, b, .say [115, 97, 100])) ∧ Below w.heap.size w w' := by
  have HC := Lib.hid (fun w' => say_yes n b [115, 97, 100] pn pw w')
  rw [show orD ([115, 97, 100] : Tx) = [115, 97, 100] from rfl] at HC
  have BF := Lib.hid (box_facts w n b (.int .i64 0) (.int .i64 0) (.string ⟨#[]⟩) .nilIface _ rfl)
  obtain ⟨n', b', S, ev, hoc, hone⟩ := oc_form pn pw (n, b, .say [115, 97, 100])
  rw [hoc] at HC ⊢
  have hst := fun W => run_store Tryz.prog W ⟨w.heap.size + 1, 3, none⟩ ev .plain hone
  clear hoc hone
  go_enter Tryz.func125, Tryz.ntmps125
  go_wp2_with fail
  refine (HC.out _).mono ?_
  rintro e w2 ⟨rfl, hb⟩
  obtain ⟨k0, k1, B4, hb1⟩ := BF.out w2 (hb.mono (by simp))
  have HB2 := Lib.hid hb1
  have HB5 := Lib.hid B4
  clear hb hb1 B4 k0 k1
  obtain ⟨y0, y1, y2, y3, e0, e1, e2, e3⟩ := HB5.out.all
  have ef := HB5.out.free
  go_wp2
  refine bodyPost_ret (v := .agg #[.int .i64 n', .int .i64 b', str S, ev]) (ret_set4 rfl _ _ (w.heap.size + 1) _ _ _ _ rfl HB5.out) rfl ?_
  exact ⟨rfl, set4_below HB2.out (by omega) _ _ _ _⟩
theorem judge_any (n b : Int) (q : Bool) (pn pw : Addr) (w : World) : Calls Tryz.prog 125 #[dsk n b, .bool q, .bool true] w fun e w' => e = .returned (oc pn pw (n, b, .say (if q then [121, 101, 115] else [115, 97, 100]))) ∧ Below w.heap.size w w' := by
  cases q
  · exact judge_sad n b pn pw w
  · exact judge_yes n b pn pw w

theorem rebase_yes (n b k : Int) (hk : Bas k) (pn pw : Addr) (w : World) : Calls Tryz.prog 187 #[dsk n b, .int .i64 k] w fun e w' => e = .returned (oc pn pw (n, k, .say [111, 107])) ∧ Below w.heap.size w w' := by
  have HC := Lib.hid (fun w' => say_yes n k [111, 107] pn pw w')
  rw [show orD ([111, 107] : Tx) = [111, 107] from rfl] at HC
  have BF := Lib.hid (box_facts w n k (.int .i64 0) (.int .i64 0) (.string ⟨#[]⟩) .nilIface _ rfl)
  obtain ⟨n', b', S, ev, hoc, hone⟩ := oc_form pn pw (n, k, .say [111, 107])
  rw [hoc] at HC ⊢
  have hst := fun W => run_store Tryz.prog W ⟨w.heap.size + 1, 3, none⟩ ev .plain hone
  have a1 : decide (Bas k) = true := decide_eq_true hk
  clear hoc hone hk
  go_enter Tryz.func187, Tryz.ntmps187
  go_wp2_with (go_at_call 47; refine (isBase_any _ _).mono ?_; rintro e w1 ⟨rfl, rfl⟩)
  refine (HC.out _).mono ?_
  rintro e w2 ⟨rfl, hb⟩
  obtain ⟨k0, k1, B4, hb1⟩ := BF.out w2 (hb.mono (by simp))
  have HB2 := Lib.hid hb1
  have HB5 := Lib.hid B4
  clear hb hb1 B4 k0 k1
  obtain ⟨y0, y1, y2, y3, e0, e1, e2, e3⟩ := HB5.out.all
  have ef := HB5.out.free
  go_wp2
  refine bodyPost_ret (v := .agg #[.int .i64 n', .int .i64 b', str S, ev]) (ret_set4 rfl _ _ (w.heap.size + 1) _ _ _ _ rfl HB5.out) rfl ?_
  exact ⟨rfl, set4_below HB2.out (by omega) _ _ _ _⟩
theorem rebase_no (n b k : Int) (hk : ¬ Bas k) (pn pw : Addr) (w : World) (h : Env w pn pw) : Calls Tryz.prog 187 #[dsk n b, .int .i64 k] w fun e w' => e = .returned (oc pn pw (n, b, .no)) ∧ Below w.heap.size w w' := by
  have HC := Lib.hid (fun w' => fail_no n b pn pw w')
  have hg := (h.keep (two_below w (.cells #[.int .i64 n, .int .i64 b] 24) (.cells #[.int .i64 0, .int .i64 0, .string ⟨#[]⟩, .nilIface] 60))).no
  have HE := Lib.hid (fun w' (hb : Below w.heap.size w w') => h.keep hb)
  have BF := Lib.hid (box_facts w n b (.int .i64 0) (.int .i64 0) (.string ⟨#[]⟩) .nilIface _ rfl)
  obtain ⟨n', b', S, ev, hoc, hone⟩ := oc_form pn pw (n, b, .no)
  rw [hoc] at HC ⊢
  have hst := fun W => run_store Tryz.prog W ⟨w.heap.size + 1, 3, none⟩ ev .plain hone
  have a1 : decide (Bas k) = false := decide_eq_false hk
  clear hoc hone hk h
  go_enter Tryz.func187, Tryz.ntmps187
  go_wp2_with (go_at_call 47; refine (isBase_any _ _).mono ?_; rintro e w1 ⟨rfl, rfl⟩)
  refine (HC.out _).mono ?_
  rintro e w2 ⟨rfl, hb⟩
  obtain ⟨k0, k1, B4, hb1⟩ := BF.out w2 (hb.mono (by simp))
  have HB2 := Lib.hid hb1
  have HB5 := Lib.hid B4
  clear hb hb1 B4 k0 k1 hg
  obtain ⟨y0, y1, y2, y3, e0, e1, e2, e3⟩ := HB5.out.all
  have ef := HB5.out.free
  go_wp2
  refine bodyPost_ret (v := .agg #[.int .i64 n', .int .i64 b', str S, ev]) (ret_set4 rfl _ _ (w.heap.size + 1) _ _ _ _ rfl HB5.out) rfl ?_
  exact ⟨rfl, set4_below HB2.out (by omega) _ _ _ _⟩
theorem ba_of (y : Tx) : (⟨y.toArray⟩ : ByteArray).data.toList = y := rfl
theorem ba_sz (y : Tx) : (⟨y.toArray⟩ : ByteArray).size = y.length := by simp [ByteArray.size]
theorem take_some (n b m : Int) (y : Tx) (hy : y.length ≤ 1000000) (hp : RParse b y = some m) (pn pw : Addr) (w : World) (h : Env w pn pw) :
    Calls Tryz.prog 128 #[dsk n b, str y] w fun e w' => e = .returned (oc pn pw (becF n b (some m))) ∧ Below w.heap.size w w' := by
  have HP := Lib.hid (fun w' => impl_ParseNumber ⟨y.toArray⟩ b w' (by rw [ba_sz]; omega))
  rw [ba_of, hp] at HP
  have HC := Lib.hid (fun w' (hw : Env w' pn pw) => become_yes n b m (parse_rng hp).1 (parse_rng hp).2 pn pw w' hw)
  rw [show (m, b, Rp.say (RText m b)) = becF n b (some m) from rfl] at HC
  have HE := Lib.hid (fun w' (hb : Below w.heap.size w w') => h.keep hb)
  have BF := Lib.hid (box_facts w n b (.int .i64 0) (.int .i64 0) (.string ⟨#[]⟩) .nilIface _ rfl)
  obtain ⟨n', b', S, ev, hoc, hone⟩ := oc_form pn pw (becF n b (some m))
  rw [hoc] at HC ⊢
  have hst := fun W => run_store Tryz.prog W ⟨w.heap.size + 1, 3, none⟩ ev .plain hone
  clear hoc hone h hp
  go_enter Tryz.func128, Tryz.ntmps128
  go_wp2_with fail
  refine (HP.out _).mono ?_
  rintro e w1 ⟨rfl, hb⟩
  obtain ⟨k0, k1, B4, hb1⟩ := BF.out w1 (hb.mono (by simp))
  have HB1 := Lib.hid hb1
  have HB4 := Lib.hid B4
  have HE1 := Lib.hid (HE.out _ hb1)
  have g0 := HE1.out.no
  have g1 := HE1.out.what
  have HLT := Lib.hid (show w.heap.size + 1 < w1.heap.size by have := hb.size; simp at this; omega)
  clear hb hb1 B4
  go_wp2_with fail
  refine (HC.out _ HE1.out).mono ?_
  rintro e w2 ⟨rfl, hb⟩
  have HB2 := Lib.hid (HB1.out.trans (hb.mono HB1.out.size))
  have HB5 := Lib.hid (HB4.out.keep hb HLT.out)
  clear hb k0 k1 g0 g1
  obtain ⟨y0, y1, y2, y3, e0, e1, e2, e3⟩ := HB5.out.all
  have ef := HB5.out.free
  go_wp2
  refine bodyPost_ret (v := .agg #[.int .i64 n', .int .i64 b', str S, ev]) (ret_set4 rfl _ _ (w.heap.size + 1) _ _ _ _ rfl HB5.out) rfl ?_
  exact ⟨rfl, set4_below HB2.out (by omega) _ _ _ _⟩
theorem take_none (n b : Int) (y : Tx) (hy : y.length ≤ 1000000) (hp : RParse b y = none) (pn pw : Addr) (w : World) (h : Env w pn pw) :
    Calls Tryz.prog 128 #[dsk n b, str y] w fun e w' => e = .returned (oc pn pw (n, b, .what)) ∧ Below w.heap.size w w' := by
  have HP := Lib.hid (fun w' => impl_ParseNumber ⟨y.toArray⟩ b w' (by rw [ba_sz]; omega))
  rw [ba_of, hp] at HP
  have HC := Lib.hid (fun w' => fail_what n b pn pw w')
  have HE := Lib.hid (fun w' (hb : Below w.heap.size w w') => h.keep hb)
  have BF := Lib.hid (box_facts w n b (.int .i64 0) (.int .i64 0) (.string ⟨#[]⟩) .nilIface _ rfl)
  obtain ⟨n', b', S, ev, hoc, hone⟩ := oc_form pn pw (n, b, .what)
  rw [hoc] at HC ⊢
  have hst := fun W => run_store Tryz.prog W ⟨w.heap.size + 1, 3, none⟩ ev .plain hone
  clear hoc hone h hp
  go_enter Tryz.func128, Tryz.ntmps128
  go_wp2_with fail
  refine (HP.out _).mono ?_
  rintro e w1 ⟨rfl, hb⟩
  obtain ⟨k0, k1, B4, hb1⟩ := BF.out w1 (hb.mono (by simp))
  have HB1 := Lib.hid hb1
  have HB4 := Lib.hid B4
  have HE1 := Lib.hid (HE.out _ hb1)
  have g0 := HE1.out.no
  have g1 := HE1.out.what
  have HLT := Lib.hid (show w.heap.size + 1 < w1.heap.size by have := hb.size; simp at this; omega)
  clear hb hb1 B4
  go_wp2_with fail
  refine (HC.out _).mono ?_
  rintro e w2 ⟨rfl, hb⟩
  have HB2 := Lib.hid (HB1.out.trans (hb.mono HB1.out.size))
  have HB5 := Lib.hid (HB4.out.keep hb HLT.out)
  clear hb k0 k1 g0 g1
  obtain ⟨y0, y1, y2, y3, e0, e1, e2, e3⟩ := HB5.out.all
  have ef := HB5.out.free
  go_wp2
  refine bodyPost_ret (v := .agg #[.int .i64 n', .int .i64 b', str S, ev]) (ret_set4 rfl _ _ (w.heap.size + 1) _ _ _ _ rfl HB5.out) rfl ?_
  exact ⟨rfl, set4_below HB2.out (by omega) _ _ _ _⟩
theorem numberOf_no (n b : Int) (y : Tx) (hy : y.length ≤ 1000000) (hp : okL y = false) (pn pw : Addr) (w : World) (h : Env w pn pw) :
    Calls Tryz.prog 129 #[dsk n b, str y] w fun e w' => e = .returned (oc pn pw (n, b, .what)) ∧ Below w.heap.size w w' := by
  have HP := Lib.hid (fun w' => trim_any ⟨y.toArray⟩ w' (by rw [ba_sz]; omega))
  have HQ := Lib.hid (show ∀ t : ByteArray, Hid (t.size = 0 ↔ (⟨y.toArray⟩ : ByteArray).data.toList.all isL = true) → t.toList.isEmpty = false from fun t ht => by
    rw [ba_empty]
    refine decide_eq_false (fun e => ?_)
    have := ht.out.1 e
    rw [ba_of] at this
    unfold okL at hp
    rw [hp] at this
    cases this)
  have HC := Lib.hid (fun w' => fail_what n b pn pw w')
  have HE := Lib.hid (fun w' (hb : Below w.heap.size w w') => h.keep hb)
  have BF := Lib.hid (box_facts w n b (.int .i64 0) (.int .i64 0) (.string ⟨#[]⟩) .nilIface _ rfl)
  obtain ⟨n', b', S, ev, hoc, hone⟩ := oc_form pn pw (n, b, .what)
  rw [hoc] at HC ⊢
  have hst := fun W => run_store Tryz.prog W ⟨w.heap.size + 1, 3, none⟩ ev .plain hone
  clear hoc hone h hp
  go_enter Tryz.func129, Tryz.ntmps129
  go_wp2_with fail
  refine (HP.out _).mono ?_
  rintro e w1 ⟨t, rfl, ht, hb⟩
  have hte := HQ.out t ht
  obtain ⟨k0, k1, B4, hb1⟩ := BF.out w1 (hb.mono (by simp))
  have HB1 := Lib.hid hb1
  have HB4 := Lib.hid B4
  have HE1 := Lib.hid (HE.out _ hb1)
  have g0 := HE1.out.no
  have g1 := HE1.out.what
  have HLT := Lib.hid (show w.heap.size + 1 < w1.heap.size by have := hb.size; simp at this; omega)
  clear hb hb1 B4
  go_wp2_with fail
  refine (HC.out _).mono ?_
  rintro e w2 ⟨rfl, hb⟩
  have HB2 := Lib.hid (HB1.out.trans (hb.mono HB1.out.size))
  have HB5 := Lib.hid (HB4.out.keep hb HLT.out)
  clear hb k0 k1 g0 g1
  obtain ⟨y0, y1, y2, y3, e0, e1, e2, e3⟩ := HB5.out.all
  have ef := HB5.out.free
  go_wp2
  refine bodyPost_ret (v := .agg #[.int .i64 n', .int .i64 b', str S, ev]) (ret_set4 rfl _ _ (w.heap.size + 1) _ _ _ _ rfl HB5.out) rfl ?_
  exact ⟨rfl, set4_below HB2.out (by omega) _ _ _ _⟩
theorem numberOf_yes (n b : Int) (y : Tx) (hy : y.length ≤ 1000000) (hp : okL y = true) (pn pw : Addr) (w : World) (h : Env w pn pw) :
    Calls Tryz.prog 129 #[dsk n b, str y] w fun e w' => e = .returned (oc pn pw (numR n b (RNumberOfWord ⟨y.toArray⟩))) ∧ Below w.heap.size w w' := by
  have HP := Lib.hid (fun w' => trim_any ⟨y.toArray⟩ w' (by rw [ba_sz]; omega))
  have HQ := Lib.hid (show ∀ t : ByteArray, Hid (t.size = 0 ↔ (⟨y.toArray⟩ : ByteArray).data.toList.all isL = true) → t.toList.isEmpty = true from fun t ht => by
    rw [ba_empty]
    exact decide_eq_true (ht.out.2 (by rw [ba_of]; exact hp)))
  have HN := Lib.hid (fun w' => impl_NumberOfWord ⟨y.toArray⟩ w')
  have HC := Lib.hid (fun w' (hw : Env w' pn pw) => count_any n b (RNumberOfWord ⟨y.toArray⟩) (word_pos _) pn pw w' hw)
  have HE := Lib.hid (fun w' (hb : Below w.heap.size w w') => h.keep hb)
  have BF := Lib.hid (box_facts w n b (.int .i64 0) (.int .i64 0) (.string ⟨#[]⟩) .nilIface _ rfl)
  obtain ⟨n', b', S, ev, hoc, hone⟩ := oc_form pn pw (numR n b (RNumberOfWord ⟨y.toArray⟩))
  rw [hoc] at HC ⊢
  have hst := fun W => run_store Tryz.prog W ⟨w.heap.size + 1, 3, none⟩ ev .plain hone
  obtain ⟨O, hO⟩ : ∃ O, O = RNumberOfWord ⟨y.toArray⟩ := ⟨_, rfl⟩
  rw [← hO] at HN HC
  obtain ⟨x, hx⟩ : ∃ x, x = O.getD 0 := ⟨_, rfl⟩
  obtain ⟨ok, hok⟩ : ∃ ok, ok = O.isSome := ⟨_, rfl⟩
  have HN' := Lib.hid (show ∀ w', Calls Tryz.prog 186 #[str y] w' fun e w'' => e = .returned (.tuple #[.int .i64 x, .bool ok]) ∧ Below w'.heap.size w' w'' by rw [hx, hok]; exact HN.out)
  have HC' := Lib.hid (show ∀ w', Env w' pn pw → Calls Tryz.prog 121 #[dsk n b, .int .i64 x, .bool ok] w' fun e w'' => e = .returned (.agg #[.int .i64 n', .int .i64 b', str S, ev]) ∧ Below w'.heap.size w' w'' by rw [hx, hok]; exact HC.out)
  clear hoc hone h hp hO hx hok HN HC
  go_enter Tryz.func129, Tryz.ntmps129
  go_wp2_with fail
  refine (HP.out _).mono ?_
  rintro e w1 ⟨t, rfl, ht, hb⟩
  have hte := HQ.out t ht
  obtain ⟨k0, k1, B4, hb1⟩ := BF.out w1 (hb.mono (by simp))
  have HB1 := Lib.hid hb1
  have HB4 := Lib.hid B4
  have HE1 := Lib.hid (HE.out _ hb1)
  have g0 := HE1.out.no
  have g1 := HE1.out.what
  have HLT := Lib.hid (show w.heap.size + 1 < w1.heap.size by have := hb.size; simp at this; omega)
  clear hb hb1 B4
  have HKK := Lib.hid (show ∀ w', Below w1.heap.size w1 w' → w'.cell? ⟨w.heap.size, 0, none⟩ = some (.int .i64 n) ∧ w'.cell? ⟨w.heap.size, 1, none⟩ = some (.int .i64 b) from fun w' hb => ⟨(hb.cell (p := ⟨w.heap.size, 0, none⟩) (Nat.lt_trans (Nat.lt_succ_self _) HLT.out)).trans k0, (hb.cell (p := ⟨w.heap.size, 1, none⟩) (Nat.lt_trans (Nat.lt_succ_self _) HLT.out)).trans k1⟩)
  clear g0 g1
  go_wp2
  go_region_with (first
    | (go_at_call 186; refine (HN'.out _).mono ?_; rintro e w2 ⟨rfl, hb⟩; have HB6 := Lib.hid (HB1.out.trans ((Below.refl _ _).drew.trans (hb.mono HB1.out.size))); have HB7 := Lib.hid (HB4.out.keep ((Below.refl _ _).drew.trans hb) HLT.out); have HE2 := Lib.hid (HE.out _ HB6.out); have HLT2 := Lib.hid (Nat.lt_of_lt_of_le HLT.out hb.size); obtain ⟨k2, k3⟩ := HKK.out w2 ((Below.refl _ _).drew.trans hb); clear hb)
    | (go_at_call 121; refine (HC'.out _ HE2.out).mono ?_; rintro e w3 ⟨rfl, hb⟩; have HB2 := Lib.hid (HB6.out.trans (hb.mono HB6.out.size)); have HB5 := Lib.hid (HB7.out.keep hb HLT2.out); obtain ⟨y0, y1, y2, y3, e0, e1, e2, e3⟩ := HB5.out.all; have ef := HB5.out.free; clear hb))
  all_goals
    go_wp2
    refine bodyPost_ret (v := .agg #[.int .i64 n', .int .i64 b', str S, ev]) (ret_set4 rfl _ _ (w.heap.size + 1) _ _ _ _ rfl HB5.out) rfl ?_
    exact ⟨rfl, set4_below HB2.out (by omega) _ _ _ _⟩

end Go.Proofs.YtlbjeiaihenjkaaGreatDoor

/- from CG: A desk's answers that are lists: decimal numbers joined with commas.  -/
namespace Go.Proofs.YtlbjeiaihenjkaaGreatDoor
open Go.RowKit
set_option linter.unusedVariables false
set_option linter.unusedSimpArgs false
set_option maxRecDepth 100000

/-- The texts of a list's numbers. -/
def itL (l : List Int) : List Value := l.map fun x => str (Lib.itoa x)
theorem itL_len (l : List Int) : (itL l).length = l.length := by simp [itL]
theorem itL_step (l : List Int) (k n : Nat) (hn : l.length = n) (hk : k < n) :
    (itL (l.take k) ++ List.replicate (n - k) (Value.string ⟨#[]⟩)).set k (str (Lib.itoa (l[k]'(by omega)))) = itL (l.take (k + 1)) ++ List.replicate (n - (k + 1)) (Value.string ⟨#[]⟩) := by
  have e : n - k = (n - (k + 1)) + 1 := by omega
  have hl : (itL (l.take k)).length = k := by rw [itL_len, List.length_take]; omega
  rw [e, List.replicate_succ, List.set_append_right _ _ (by omega), hl, Nat.sub_self, List.set_cons_zero, take_snoc' l k (by omega)]
  unfold itL
  rw [List.map_append, List.append_assoc]
  rfl
theorem itoa_len {l : List Int} (h : Nice l) : ∀ x ∈ l, (Lib.itoa x).length ≤ 21 := fun x hx => by
  have := h.2 x hx
  exact Lib.itoa_length_le x (by omega) (by omega)
theorem lens_le : ∀ (l : List Tx) (B : Nat), (∀ x ∈ l, x.length ≤ B) → Lib.lens l ≤ l.length * B
  | [], _, _ => by simp [Lib.lens]
  | x :: l, B, h => by
    have h1 := h x (by simp)
    have h2 := lens_le l B (fun y hy => h y (by simp [hy]))
    have e : (x :: l).length * B = l.length * B + B := by rw [List.length_cons, Nat.succ_mul]
    have e2 : Lib.lens (x :: l) = x.length + Lib.lens l := by simp [Lib.lens]
    omega
theorem jnT_len {l : List Int} (h : Nice l) : (jnT l).length ≤ 140737488355328 := by
  unfold jnT
  cases l with
  | nil => simp [Lib.join_nil]
  | cons x r =>
    rw [List.map_cons, Lib.join_length]
    have h1 := lens_le (Lib.itoa x :: r.map Lib.itoa) 21 (fun y hy => by
      rw [← List.map_cons] at hy
      obtain ⟨z, hz, rfl⟩ := List.mem_map.1 hy
      exact itoa_len h z hz)
    have h2 := h.1
    simp only [List.length_cons, List.length_map, List.length_nil] at h1 h2 ⊢
    omega

theorem join_any (g cap : Nat) (B : Nat) (l : List Int) (w : World) (h : Rg 9 w B (.slice (some ⟨g, 0, none⟩) l.length cap) (itL l)) (hn : Nice l) :
    Calls Tryz.prog 176 #[.slice (some ⟨g, 0, none⟩) l.length cap, .string ⟨#[44]⟩] w fun e w' => e = .returned (str (jnT l)) ∧ Below w.heap.size w w' := by
  obtain ⟨_, _, hg, hcap, _, hc, _⟩ := h.at
  have hmap : (l.map fun x => (⟨(Lib.itoa x).toArray⟩ : ByteArray)).map (·.data.toList) = l.map Lib.itoa := by
    rw [List.map_map]; rfl
  have := Tryz.strings_Join g 0 cap (l.map fun x => (⟨(Lib.itoa x).toArray⟩ : ByteArray)) ⟨#[44]⟩ w (fun j x hj => by
    rw [List.getElem?_map] at hj
    cases hs : l[j]? with
    | none => rw [hs] at hj; cases hj
    | some y =>
      rw [hs] at hj
      simp only [Option.map_some, Option.some.injEq] at hj
      subst hj
      obtain ⟨hjl, hje⟩ := List.getElem?_eq_some_iff.1 hs
      rw [Nat.zero_add, hc j (by rw [itL_len]; exact hjl)]
      simp [itL, hje]) hg (by rw [List.length_map]; have := hn.1; omega) (by rw [List.length_map]; rw [itL_len] at hcap; exact hcap) (by rw [hmap]; exact jnT_len hn)
  rw [hmap, List.length_map] at this
  exact this

theorem rd_formC {w : World} {B : Nat} {v : Value} {xs : List Int} (h : Rd w B v xs) : ∃ a cap, v = .slice a xs.length cap ∧ (xs.length = 0 ∨ ∃ g, a = some ⟨g, 0, none⟩ ∧ g < w.heap.size ∧ ∀ j (hj : j < xs.length), w.cell? ⟨g, j, none⟩ = some (.int .i64 xs[j])) := by
  rcases h.cases with ⟨hv, hx⟩ | ⟨g, cap, hu, _, hg, _, _, hc, _⟩
  · rw [hx]; exact ⟨none, 0, hv, .inl rfl⟩
  · exact ⟨_, cap, hu, .inr ⟨g, rfl, hg, hc⟩⟩
theorem list_loop (n b : Int) (ok : Bool) (l : List Int) (hl : Nice l) (v : Value) (D : Nat) (pn pw : Addr) (w : World) (h : Env w pn pw) (hv : Rd w D v l) :
    Calls Tryz.prog 119 #[dsk n b, v, .bool ok] w fun e w' => e = .returned (oc pn pw (lstF n b ok l)) ∧ Below w.heap.size w w' := by
  have HC := Lib.hid (show ∀ w', Env w' pn pw → Calls Tryz.prog 118 #[dsk n b, str (jnT l), .bool ok] w' fun e w'' => e = .returned (oc pn pw (lstF n b ok l)) ∧ Below w'.heap.size w' w'' from fun w' hw => by
    cases ok with
    | false => exact say_no n b _ pn pw w' hw
    | true => exact say_yes n b _ pn pw w')
  have HJ := Lib.hid (fun g cap B w' h => join_any g cap B l w' h hl)
  have HE := Lib.hid (fun w' (hb : Below w.heap.size w w') => h.keep hb)
  have BF := Lib.hid (box_facts w n b (.int .i64 0) (.int .i64 0) (.string ⟨#[]⟩) .nilIface _ rfl)
  obtain ⟨n', b', S, ev, hoc, hone⟩ := oc_form pn pw (lstF n b ok l)
  rw [hoc] at HC ⊢
  have hst := fun W => run_store Tryz.prog W ⟨w.heap.size + 1, 3, none⟩ ev .plain hone
  obtain ⟨T, hT⟩ : ∃ T, T = jnT l := ⟨_, rfl⟩
  rw [← hT] at HC HJ
  have HN := Lib.hid hl.2
  have hl2 := hl.1
  have HV := Lib.hid hv
  obtain ⟨L, hL⟩ : ∃ L, L = l.length := ⟨_, rfl⟩
  obtain ⟨a, c, hac, hav⟩ := rd_formC hv
  have HAV := Lib.hid hav
  have HL := Lib.hid hL
  rw [← hL] at hac hl2
  subst hac
  clear hT hoc hone h hl hv hL hav
  have hLL : ((L : Nat) : Int) = (L : Int) := rfl
  go_enter Tryz.func119, Tryz.ntmps119
  go_wp2_with (at_make; refine wpList_mkG rfl _ _ 30 9 (.string ⟨#[]⟩) 16 Tryz.underlying30 infoT (by omega) rfl rfl .i64 .i64 _ _ L rfl rfl rfl rfl (by omega) ?_; intro w1 hr1 hg1 hb1; have R1 := Lib.hid hr1; have B1 := Lib.hid hb1; clear hr1 hg1 hb1)
  obtain ⟨W1, hW1⟩ : ∃ W1 : World, W1 = (w.alloc (.cells #[.int .i64 n, .int .i64 b] 24)).alloc (.cells #[.int .i64 0, .int .i64 0, .string ⟨#[]⟩, .nilIface] 60) := ⟨_, rfl⟩
  have HS1 := Lib.hid (show W1.heap.size = w.heap.size + 1 + 1 by rw [hW1]; simp)
  rw [← hW1] at BF R1 B1
  clear hW1
  have HBB := Lib.hid (show ∀ w', Below (w.heap.size + 1 + 1) W1 w' → Below (w.heap.size + 2) W1 w' from fun w' hb => hb)
  rw [HS1.out] at R1 B1
  go_loopw [15] (fun i wr => ∃ k : Nat, k ≤ L ∧ i = .int .i64 (k : Int) ∧ Rg 9 wr (w.heap.size + 1 + 1) (.slice (some ⟨w.heap.size + 1 + 1, 0, none⟩) L L) (itL (l.take k) ++ List.replicate (L - k) (.string ⟨#[]⟩)) ∧ Below (w.heap.size + 1 + 1) W1 wr) (fun i _ => L - (intOf i).toNat)
  case atStart => exact ⟨0, Nat.zero_le _, rfl, by simpa [itL] using R1.out, B1.out⟩
  case round =>
    obtain ⟨k, hk, rfl, hr, hb⟩ := hrel
    have HR := Lib.hid hr
    have HB := Lib.hid hb
    clear hr hb
    obtain ⟨k0, k1, B4, hb1⟩ := BF.out wr (HBB.out _ HB.out)
    have HB1 := Lib.hid hb1
    have HB4 := Lib.hid B4
    have HE1 := Lib.hid (HE.out _ hb1)
    clear hb1 B4
    by_cases hlt : k < L
    · have hkl : k < l.length := by rw [← HL.out]; exact hlt
      rcases HAV.out with hx | ⟨g, rfl, hg, hcs⟩
      · omega
      have hcell : wr.cell? ⟨g, k, none⟩ = some (.int .i64 l[k]) := (HB1.out.cell (p := ⟨g, k, none⟩) hg).trans (hcs k hkl)
      obtain ⟨x0, x1⟩ := HN.out l[k] (List.getElem_mem hkl)
      have HST := Lib.hid (itL_step l k L HL.out.symm hlt)
      obtain ⟨x, hx⟩ : ∃ x, x = l[k] := ⟨_, rfl⟩
      rw [← hx] at hcell x0 x1 HST
      have HI := Lib.hid (itoa_any x x0 x1 pn pw wr HE1.out)
      have HIX := Lib.hid hx
      clear hcs hx x0 x1
      obtain ⟨t, ht⟩ : ∃ t, t = Lib.itoa x := ⟨_, rfl⟩
      rw [← ht] at HI HST
      clear ht
      go_wp2_with fail
      refine HI.out.mono ?_
      rintro e w2 ⟨rfl, hb⟩
      have HR2 := Lib.hid (HR.out.keep hb)
      have HB2 := Lib.hid (HB.out.trans (hb.mono (by have h1 := HB.out.size; have h2 := HS1.out; omega)))
      have hc2 := HR2.out.at.2.2.2.2.2.1
      have hf2 := HR2.out.at.2.2.2.2.2.2
      have hlen2 : k < (itL (l.take k) ++ List.replicate (L - k) (Value.string ⟨#[]⟩)).length := by
        rw [List.length_append, itL_len, List.length_take, List.length_replicate]; omega
      have e0 := hc2 k hlen2
      have f0 := hf2 k
      obtain ⟨old, hold⟩ : ∃ old, w2.cell? ⟨w.heap.size + 1 + 1, k, none⟩ = some old := ⟨_, e0⟩
      have HR3 := Lib.hid (HR2.out.set k (str t))
      clear hb hc2 hf2 e0 hlen2
      go_wp2
      go_roundw
      case rel => exact ⟨k + 1, by omega, by go_num, by rw [← HST.out]; exact HR3.out.1, HB2.out.setCell (p := ⟨w.heap.size + 1 + 1, k, none⟩) (Nat.le_refl _) _⟩
      case measure => simp [intOf]; omega
    · obtain rfl : k = L := by omega
      have HR2 := Lib.hid (show Rg 9 wr (w.heap.size + 1 + 1) (.slice (some ⟨w.heap.size + 1 + 1, 0, none⟩) l.length k) (itL l) by
        have := HR.out
        rw [Nat.sub_self, List.replicate_zero, List.append_nil, HL.out, List.take_length] at this
        rw [HL.out]
        exact this)
      have HJ2 := Lib.hid (fun w' (hb : Below wr.heap.size wr w') => HJ.out (w.heap.size + 1 + 1) k (w.heap.size + 1 + 1) w' (HR2.out.keep hb))
      rw [← HL.out] at HJ2
      have HJ3 := Lib.hid (HJ2.out wr.drew ((Below.refl _ wr).drew))
      have HSZ := Lib.hid (show w.heap.size + 1 < wr.heap.size by have h1 := HB.out.size; have h2 := HS1.out; omega)
      have HKK := Lib.hid (show ∀ w', Below wr.heap.size wr w' → w'.cell? ⟨w.heap.size, 0, none⟩ = some (.int .i64 n) ∧ w'.cell? ⟨w.heap.size, 1, none⟩ = some (.int .i64 b) from fun w' hb => ⟨(hb.cell (p := ⟨w.heap.size, 0, none⟩) (Nat.lt_trans (Nat.lt_succ_self _) HSZ.out)).trans k0, (hb.cell (p := ⟨w.heap.size, 1, none⟩) (Nat.lt_trans (Nat.lt_succ_self _) HSZ.out)).trans k1⟩)
      clear hlt HR HR2 HJ
      go_wp2
      go_region_with (first
        | (go_at_call 176; refine HJ3.out.mono ?_; rintro e w2 ⟨rfl, hb⟩; have HB6 := Lib.hid (HB1.out.trans ((Below.refl _ _).drew.trans (hb.mono HB1.out.size))); have HB7 := Lib.hid (HB4.out.keep ((Below.refl _ _).drew.trans hb) HSZ.out); have HE2 := Lib.hid (HE.out _ HB6.out); have HLT2 := Lib.hid (Nat.lt_of_lt_of_le HSZ.out hb.size); obtain ⟨k2, k3⟩ := HKK.out w2 ((Below.refl _ _).drew.trans hb); clear hb)
        | (go_at_call 118; refine (HC.out _ HE2.out).mono ?_; rintro e w3 ⟨rfl, hb⟩; have HB8 := Lib.hid (HB6.out.trans (hb.mono HB6.out.size)); have HB5 := Lib.hid (HB7.out.keep hb HLT2.out); obtain ⟨y0, y1, y2, y3, e0, e1, e2, e3⟩ := HB5.out.all; have ef := HB5.out.free; clear hb))
      all_goals
        go_wp2
        refine bodyPost_ret (v := .agg #[.int .i64 n', .int .i64 b', str S, ev]) (ret_set4 rfl _ _ (w.heap.size + 1) _ _ _ _ rfl HB5.out) rfl ?_
        exact ⟨rfl, set4_below HB8.out (by omega) _ _ _ _⟩

end Go.Proofs.YtlbjeiaihenjkaaGreatDoor
