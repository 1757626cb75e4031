/-
  Joint text of CO, CP, CQ: what each proves stands ahead of it.
-/
import Derived.Test.YtlbjeiaihenjkaaGreatDoorJ30
import Derived.Stop.IfaceNil
import Derived.LaidEql
import Derived.Stop.Asserts
import Derived.RowKitTokens
import Derived.Test.YtlbjeiaihenjkaaGreatDoorJ32
/- from CO: errors.Is at the console's two errors; what an outcome says.  -/
namespace Go.Proofs.YtlbjeiaihenjkaaGreatDoor
open Go.RowKit Go.Extern
set_option linter.unusedVariables false
set_option linter.unusedSimpArgs false
set_option maxRecDepth 100000

theorem isTypeOf (v : Value) (w : World) : (Extern.ReflectliteType.typeOf #[.iface 263 v]).run Tryz.prog w = .ok (.iface 142 (.agg #[.pointer (some ⟨9, 263, none⟩)])) w := by kernel_rfl
theorem isComparable (w : World) : ((Extern.ReflectliteType.method fun t => do Extern.Rtype.noPackHeld "Comparable" t; pure (.bool (← typeInfo t).comparable)) #[.agg #[.pointer (some ⟨9, 263, none⟩)]]).run Tryz.prog w = .ok (.bool true) w := by kernel_rfl
theorem callComparable (w : World) : (callFunc 315 #[.agg #[.pointer (some ⟨9, 263, none⟩)]]).run Tryz.prog w = .ok (.value (.bool true)) w := by
  rw [@run_callFunc_extern Tryz.prog 315 _ (Extern.ReflectliteType.method fun t => do Extern.Rtype.noPackHeld "Comparable" t; pure (.bool (← typeInfo t).comparable)) Tryz.func315 (by kernel_rfl) (by kernel_rfl) (by kernel_rfl) (by kernel_rfl), isComparable]
  rfl
theorem isMethodComparable (v : Value) (w : World) : (Go.method 396 142 v "Comparable").run Tryz.prog w = .ok (315, v) w := by kernel_rfl
theorem isComp : (Tryz.prog.info? 263).map (·.comparable) = some true := by kernel_rfl
theorem isSize : (Tryz.prog.info? 284).map (·.size) = some 1 := by kernel_rfl
theorem noIsE (v : Value) (xT : TypeId) (w : World) : (Instr.typeAssert (.iface 263 v) xT 184 true).run Tryz.prog w = .ok (.tuple #[.nilIface, .bool false]) w := run_typeAssert_lacksB Tryz.underlying184 (by kernel_rfl) (by kernel_rfl) v xT w
theorem noUnwrapE (v : Value) (xT : TypeId) (w : World) : (Instr.typeAssert (.iface 263 v) xT 149 true).run Tryz.prog w = .ok (.tuple #[.nilIface, .bool false]) w := run_typeAssert_lacksB Tryz.underlying149 (by kernel_rfl) (by kernel_rfl) v xT w
theorem noUnwrapsE (v : Value) (xT : TypeId) (w : World) : (Instr.typeAssert (.iface 263 v) xT 151 true).run Tryz.prog w = .ok (.tuple #[.nilIface, .bool false]) w := run_typeAssert_lacksB Tryz.underlying151 (by kernel_rfl) (by kernel_rfl) v xT w

theorem is0_same (a : Addr) (w : World) :
    Calls Tryz.prog 132 #[.iface 263 (.pointer (some a)), .iface 263 (.pointer (some a)), .bool true] w fun e w' => e = .returned (.bool true) ∧ w' = w := by
  obtain ⟨i, hi, hcmp⟩ := Option.map_eq_some_iff.1 isComp
  obtain ⟨j, hj, hjs⟩ := Option.map_eq_some_iff.1 isSize
  have heq := run_eql_iface_ptr_same (P := Tryz.prog) w a Tryz.underlying58 Tryz.underlying263 hi hcmp hj
  go_enter Tryz.func132, Tryz.ntmps132
  go_wp2
  refine wp_loop_rounds 1 ?_
  rw [rounds_succ]
  go_wp2
  go_ret
  exact ⟨rfl, rfl⟩
theorem is0_other (a b : Addr) (ca cb : Array Value) (ta tb : TypeId) (w : World) (hne : a ≠ b) (ha : w.heap[a.block]? = some (.cells ca ta (0, 0))) (hb : w.heap[b.block]? = some (.cells cb tb (0, 0))) :
    Calls Tryz.prog 132 #[.iface 263 (.pointer (some a)), .iface 263 (.pointer (some b)), .bool true] w fun e w' => e = .returned (.bool false) ∧ w' = w := by
  obtain ⟨i, hi, hcmp⟩ := Option.map_eq_some_iff.1 isComp
  obtain ⟨j, hj, hjs⟩ := Option.map_eq_some_iff.1 isSize
  have nE := noIsE
  have uE := noUnwrapE
  have vE := noUnwrapsE
  have heq := run_eql_iface_ptr_other (P := Tryz.prog) w Tryz.underlying58 Tryz.underlying263 hi hcmp hj (by rw [hjs]; decide) hne ha hb
  go_enter Tryz.func132, Tryz.ntmps132
  go_wp2
  refine wp_loop_rounds 1 ?_
  rw [rounds_succ]
  go_wp2
  go_ret
  exact ⟨rfl, rfl⟩

theorem is_same (a : Addr) (w : World) :
    Calls Tryz.prog 62 #[.iface 263 (.pointer (some a)), .iface 263 (.pointer (some a))] w fun e w' => e = .returned (.bool true) ∧ w' = w := by
  have h8 := @run_callFunc_extern Tryz.prog 131 _ Extern.ReflectliteType.typeOf Tryz.func131 (by kernel_rfl) (by kernel_rfl) (by kernel_rfl) (by kernel_rfl)
  have h32 := callComparable
  have tT := isTypeOf
  have mR := isMethodComparable
  have hif : Tryz.prog.isIface 58 = true := by kernel_rfl
  have HI := is0_same a
  go_enter Tryz.func62, Tryz.ntmps62
  go_wp2_with fail
  refine (HI _).mono ?_
  rintro e w1 ⟨rfl, rfl⟩
  go_wp2
  go_ret
  exact ⟨rfl, rfl⟩
theorem is_other (a b : Addr) (ca cb : Array Value) (ta tb : TypeId) (w : World) (hne : a ≠ b) (ha : w.heap[a.block]? = some (.cells ca ta (0, 0))) (hb : w.heap[b.block]? = some (.cells cb tb (0, 0))) :
    Calls Tryz.prog 62 #[.iface 263 (.pointer (some a)), .iface 263 (.pointer (some b))] w fun e w' => e = .returned (.bool false) ∧ w' = w := by
  have h8 := @run_callFunc_extern Tryz.prog 131 _ Extern.ReflectliteType.typeOf Tryz.func131 (by kernel_rfl) (by kernel_rfl) (by kernel_rfl) (by kernel_rfl)
  have h32 := callComparable
  have tT := isTypeOf
  have mR := isMethodComparable
  have hif : Tryz.prog.isIface 58 = true := by kernel_rfl
  have HI := is0_other a b ca cb ta tb w hne ha hb
  clear ha hb
  go_enter Tryz.func62, Tryz.ntmps62
  go_wp2_with fail
  refine HI.mono ?_
  rintro e w1 ⟨rfl, rfl⟩
  go_wp2
  go_ret
  exact ⟨rfl, rfl⟩
theorem is_nil (b : Addr) (w : World) :
    Calls Tryz.prog 62 #[.nilIface, .iface 263 (.pointer (some b))] w fun e w' => e = .returned (.bool false) ∧ w' = w := by
  have hn := run_eql_iface_nil_left (P := Tryz.prog) w 263 (.pointer (some b)) Tryz.underlying58
  have hif : Tryz.prog.isIface 58 = true := by kernel_rfl
  go_enter Tryz.func62, Tryz.ntmps62
  go_wp2
  go_ret
  exact ⟨rfl, rfl⟩

end Go.Proofs.YtlbjeiaihenjkaaGreatDoor

/- from CP: What an outcome says.  -/
namespace Go.Proofs.YtlbjeiaihenjkaaGreatDoor
open Go.RowKit
set_option linter.unusedVariables false
set_option linter.unusedSimpArgs false
set_option maxRecDepth 100000

theorem one_below (w : World) (o1 : Obj) : Below w.heap.size w (w.alloc o1) := alloc_belowD _ _
theorem said_any (pn pw : Addr) (n b : Int) (rp : Rp) (w : World) (h : Env w pn pw) : Calls Tryz.prog 38 #[oc pn pw (n, b, rp)] w fun e w' => e = .returned (str rp.txt) ∧ Below w.heap.size w w' := by
  have HE := Lib.hid (fun w' (hb : Below w.heap.size w w') => h.keep hb)
  have hne := h.ne
  clear h
  cases rp with
  | say t =>
    have HN := Lib.hid (is_nil pn)
    have HW := Lib.hid (is_nil pw)
    have E1 := Lib.hid (HE.out _ (one_below w (.cells #[.int .i64 n, .int .i64 b, str t, .nilIface] 60)))
    have c1 := E1.out.no
    have c2 := E1.out.what
    clear hne
    dsimp only [oc, rpS, rpE, Rp.txt]
    go_enter Tryz.func38, Tryz.ntmps38
    go_wp2_with fail
    refine (HN.out _).mono ?_
    rintro e w1 ⟨rfl, rfl⟩
    go_wp2_with fail
    refine (HW.out _).mono ?_
    rintro e w1 ⟨rfl, rfl⟩
    go_wp2
    go_ret
    exact ⟨rfl, one_below _ _⟩
  | no =>
    have HN := Lib.hid (is_same pn)
    have E1 := Lib.hid (HE.out _ (one_below w (.cells #[.int .i64 n, .int .i64 b, str [], .iface 263 (.pointer (some pn))] 60)))
    have c1 := E1.out.no
    clear hne
    dsimp only [oc, rpS, rpE, Rp.txt]
    go_enter Tryz.func38, Tryz.ntmps38
    go_wp2_with fail
    refine (HN.out _).mono ?_
    rintro e w1 ⟨rfl, rfl⟩
    go_wp2
    go_ret
    exact ⟨rfl, one_below _ _⟩
  | what =>
    have HW := Lib.hid (is_same pw)
    have E1 := Lib.hid (HE.out _ (one_below w (.cells #[.int .i64 n, .int .i64 b, str [], .iface 263 (.pointer (some pw))] 60)))
    have c1 := E1.out.no
    have c2 := E1.out.what
    obtain ⟨ca, ta, h1⟩ := E1.out.rowW
    obtain ⟨cb, tb, h2⟩ := E1.out.rowN
    have HN := Lib.hid (is_other pw pn ca cb ta tb _ hne.symm h1 h2)
    clear hne h1 h2
    dsimp only [oc, rpS, rpE, Rp.txt]
    go_enter Tryz.func38, Tryz.ntmps38
    go_wp2_with fail
    refine HN.out.mono ?_
    rintro e w1 ⟨rfl, rfl⟩
    go_wp2_with fail
    refine (HW.out _).mono ?_
    rintro e w1 ⟨rfl, rfl⟩
    go_wp2
    go_ret
    exact ⟨rfl, one_below _ _⟩

end Go.Proofs.YtlbjeiaihenjkaaGreatDoor

/- from CQ: The program executes lines of two words.  -/
namespace Go.Proofs.YtlbjeiaihenjkaaGreatDoor
open Go.RowKit
set_option linter.unusedVariables false
set_option linter.unusedSimpArgs false
set_option maxRecDepth 100000

theorem with_take (n b : Int) (x y : Tx) (hN : Num n) (hB : Bas b) (pn pw : Addr) (hy : y.length ≤ 1000000) (o : Int × Int × Rp) (hx : x = [116, 97, 107, 101]) (HH : ∀ w', Env w' pn pw → Calls Tryz.prog 128 #[dsk n b, str y] w' fun e w'' => e = .returned (oc pn pw o) ∧ Below w'.heap.size w' w'') (w : World) (h : Env w pn pw) :
    Calls Tryz.prog 60 #[dsk n b, str x, str y] w fun e w' => e = .returned (oc pn pw (o)) ∧ Below w.heap.size w w' := by
  have HC := Lib.hid (fun w' (hw : Env w' pn pw) => HH w' hw)
  have HE := Lib.hid (fun w' (hb : Below w.heap.size w w') => h.keep hb)
  have BF := Lib.hid (box_facts w n b (.int .i64 0) (.int .i64 0) (.string ⟨#[]⟩) .nilIface _ rfl)
  have HE1 := Lib.hid (HE.out _ (two_below w (.cells #[.int .i64 n, .int .i64 b] 24) (.cells #[.int .i64 0, .int .i64 0, .string ⟨#[]⟩, .nilIface] 60)))
  have g0 := HE1.out.no
  have g1 := HE1.out.what
  obtain ⟨n', b', S, ev, hoc, hone⟩ := oc_form pn pw (o)
  rw [hoc] at HC ⊢
  have hst := fun W => run_store Tryz.prog W ⟨w.heap.size + 1, 3, none⟩ ev .plain hone
  have q0 : (x == [116, 97, 107, 101]) = true := by simp [hx]
  clear hx
  clear hoc hone h
  go_enter Tryz.func60, Tryz.ntmps60
  go_wp2_with fail
  refine (HC.out _ HE1.out).mono ?_
  rintro e w2 ⟨rfl, hb⟩
  obtain ⟨k0, k1, B4, hb1⟩ := BF.out w2 (hb.mono (by simp))
  have HB2 := Lib.hid hb1
  have HB5 := Lib.hid B4
  clear hb k0 k1 g0 g1 hb1 B4
  obtain ⟨y0, y1, y2, y3, e0, e1, e2, e3⟩ := HB5.out.all
  have ef := HB5.out.free
  go_wp2
  refine bodyPost_ret (v := .agg #[.int .i64 n', .int .i64 b', str S, ev]) (ret_set4 rfl _ _ (w.heap.size + 1) _ _ _ _ rfl HB5.out) rfl ?_
  exact ⟨rfl, set4_below HB2.out (by omega) _ _ _ _⟩

theorem with_number (n b : Int) (x y : Tx) (hN : Num n) (hB : Bas b) (pn pw : Addr) (hy : y.length ≤ 1000000) (o : Int × Int × Rp) (h0 : ¬ x = [116, 97, 107, 101]) (hx : x = [110, 117, 109, 98, 101, 114]) (HH : ∀ w', Env w' pn pw → Calls Tryz.prog 129 #[dsk n b, str y] w' fun e w'' => e = .returned (oc pn pw o) ∧ Below w'.heap.size w' w'') (w : World) (h : Env w pn pw) :
    Calls Tryz.prog 60 #[dsk n b, str x, str y] w fun e w' => e = .returned (oc pn pw (o)) ∧ Below w.heap.size w w' := by
  have HC := Lib.hid (fun w' (hw : Env w' pn pw) => HH w' hw)
  have HE := Lib.hid (fun w' (hb : Below w.heap.size w w') => h.keep hb)
  have BF := Lib.hid (box_facts w n b (.int .i64 0) (.int .i64 0) (.string ⟨#[]⟩) .nilIface _ rfl)
  have HE1 := Lib.hid (HE.out _ (two_below w (.cells #[.int .i64 n, .int .i64 b] 24) (.cells #[.int .i64 0, .int .i64 0, .string ⟨#[]⟩, .nilIface] 60)))
  have g0 := HE1.out.no
  have g1 := HE1.out.what
  obtain ⟨n', b', S, ev, hoc, hone⟩ := oc_form pn pw (o)
  rw [hoc] at HC ⊢
  have hst := fun W => run_store Tryz.prog W ⟨w.heap.size + 1, 3, none⟩ ev .plain hone
  have q0 : (x == [116, 97, 107, 101]) = false := by simp [h0]
  have q1 : (x == [110, 117, 109, 98, 101, 114]) = true := by simp [hx]
  clear hx h0
  clear hoc hone h
  go_enter Tryz.func60, Tryz.ntmps60
  go_wp2_with fail
  refine (HC.out _ HE1.out).mono ?_
  rintro e w2 ⟨rfl, hb⟩
  obtain ⟨k0, k1, B4, hb1⟩ := BF.out w2 (hb.mono (by simp))
  have HB2 := Lib.hid hb1
  have HB5 := Lib.hid B4
  clear hb k0 k1 g0 g1 hb1 B4
  obtain ⟨y0, y1, y2, y3, e0, e1, e2, e3⟩ := HB5.out.all
  have ef := HB5.out.free
  go_wp2
  refine bodyPost_ret (v := .agg #[.int .i64 n', .int .i64 b', str S, ev]) (ret_set4 rfl _ _ (w.heap.size + 1) _ _ _ _ rfl HB5.out) rfl ?_
  exact ⟨rfl, set4_below HB2.out (by omega) _ _ _ _⟩

theorem with_else (n b : Int) (x y : Tx) (hN : Num n) (hB : Bas b) (pn pw : Addr) (hy : y.length ≤ 1000000) (o : Int × Int × Rp) (h0 : ¬ x = [116, 97, 107, 101]) (h1 : ¬ x = [110, 117, 109, 98, 101, 114]) (HH : ∀ w', Env w' pn pw → Calls Tryz.prog 130 #[dsk n b, str x, str y] w' fun e w'' => e = .returned (oc pn pw o) ∧ Below w'.heap.size w' w'') (w : World) (h : Env w pn pw) :
    Calls Tryz.prog 60 #[dsk n b, str x, str y] w fun e w' => e = .returned (oc pn pw (o)) ∧ Below w.heap.size w w' := by
  have HC := Lib.hid (fun w' (hw : Env w' pn pw) => HH w' hw)
  have HE := Lib.hid (fun w' (hb : Below w.heap.size w w') => h.keep hb)
  have BF := Lib.hid (box_facts w n b (.int .i64 0) (.int .i64 0) (.string ⟨#[]⟩) .nilIface _ rfl)
  have HE1 := Lib.hid (HE.out _ (two_below w (.cells #[.int .i64 n, .int .i64 b] 24) (.cells #[.int .i64 0, .int .i64 0, .string ⟨#[]⟩, .nilIface] 60)))
  have g0 := HE1.out.no
  have g1 := HE1.out.what
  obtain ⟨n', b', S, ev, hoc, hone⟩ := oc_form pn pw (o)
  rw [hoc] at HC ⊢
  have hst := fun W => run_store Tryz.prog W ⟨w.heap.size + 1, 3, none⟩ ev .plain hone
  have q0 : (x == [116, 97, 107, 101]) = false := by simp [h0]
  have q1 : (x == [110, 117, 109, 98, 101, 114]) = false := by simp [h1]
  clear h0 h1
  clear hoc hone h
  go_enter Tryz.func60, Tryz.ntmps60
  go_wp2_with fail
  refine (HC.out _ HE1.out).mono ?_
  rintro e w2 ⟨rfl, hb⟩
  obtain ⟨k0, k1, B4, hb1⟩ := BF.out w2 (hb.mono (by simp))
  have HB2 := Lib.hid hb1
  have HB5 := Lib.hid B4
  clear hb k0 k1 g0 g1 hb1 B4
  obtain ⟨y0, y1, y2, y3, e0, e1, e2, e3⟩ := HB5.out.all
  have ef := HB5.out.free
  go_wp2
  refine bodyPost_ret (v := .agg #[.int .i64 n', .int .i64 b', str S, ev]) (ret_set4 rfl _ _ (w.heap.size + 1) _ _ _ _ rfl HB5.out) rfl ?_
  exact ⟨rfl, set4_below HB2.out (by omega) _ _ _ _⟩

theorem executeWith_any (n b : Int) (x y : Tx) (hN : Num n) (hB : Bas b) (hy : y.length ≤ 1000000) (pn pw : Addr) (w : World) (h : Env w pn pw) :
    Calls Tryz.prog 60 #[dsk n b, str x, str y] w fun e w' => e = .returned (oc pn pw (withF n b x y)) ∧ Below w.heap.size w w' := by
  unfold withF
  by_cases h0 : x = [116, 97, 107, 101]
  · rw [if_pos h0]
    cases hp : RParse b y with
    | some m => exact with_take n b x y hN hB pn pw hy _ h0 (fun w' hw => take_some n b m y hy hp pn pw w' hw) w h
    | none => exact with_take n b x y hN hB pn pw hy _ h0 (fun w' hw => take_none n b y hy hp pn pw w' hw) w h
  by_cases h1 : x = [110, 117, 109, 98, 101, 114]
  · rw [if_neg h0, if_pos h1]
    cases hp : okL y with
    | true => rw [if_pos rfl]; exact with_number n b x y hN hB pn pw hy _ h0 h1 (fun w' hw => numberOf_yes n b y hy hp pn pw w' hw) w h
    | false => rw [if_neg (by simp)]; exact with_number n b x y hN hB pn pw hy _ h0 h1 (fun w' hw => numberOf_no n b y hy hp pn pw w' hw) w h
  rw [if_neg h0, if_neg h1]
  exact with_else n b x y hN hB pn pw hy _ h0 h1 (fun w' hw => withNumber_any n b x y hN hB hy pn pw w' hw) w h

end Go.Proofs.YtlbjeiaihenjkaaGreatDoor
