/-
  Joint text of R5, X3, X4, X5, X6: what each proves stands ahead of it.
-/
import Derived.Test.YtlbjeiaihenjkaaGreatDoorJ45
import Derived.Test.YtlbjeiaihenjkaaGreatDoorJ33
import Derived.Test.YtlbjeiaihenjkaaGreatDoorJ46
import Derived.Test.YtlbjeiaihenjkaaGreatDoorJ40
/- from R5: errors.Is at a line's failure, which wraps one of the console's two errors; what an outcome of a script says.  -/
namespace Go.Proofs.YtlbjeiaihenjkaaGreatDoor
open Go.RowKit Go.Extern
set_option linter.unusedVariables false
set_option linter.unusedSimpArgs false
set_option maxRecDepth 100000

theorem noIsL (v : Value) (xT : TypeId) (w : World) : (Instr.typeAssert (.iface 70 v) xT 184 true).run Tryz.prog w = .ok (.tuple #[.nilIface, .bool false]) w := run_typeAssert_lacksB Tryz.underlying184 (by kernel_rfl) (by kernel_rfl) v xT w
theorem hasUnwrapL (v : Value) (xT : TypeId) (w : World) : (Instr.typeAssert (.iface 70 v) xT 149 true).run Tryz.prog w = .ok (.tuple #[.iface 70 v, .bool true]) w := run_typeAssert_hasB Tryz.underlying149 (by kernel_rfl) v xT w
theorem methodUnwrapL (v : Value) (w : World) : (Go.method 396 70 v "Unwrap").run Tryz.prog w = .ok (307, v) w := by kernel_rfl
theorem unwrap_any (k : Int) (a : Addr) (w : World) : Calls Tryz.prog 307 #[.agg #[.int .i64 k, .iface 263 (.pointer (some a))]] w fun e w' => e = .returned (.iface 263 (.pointer (some a))) ∧ Below w.heap.size w w' := by
  go_enter Tryz.func307, Tryz.ntmps307
  go_wp2
  go_ret
  exact ⟨rfl, alloc_belowD _ _⟩

theorem is0L_same (k : Int) (a : Addr) (w : World) :
    Calls Tryz.prog 132 #[.iface 70 (.agg #[.int .i64 k, .iface 263 (.pointer (some a))]), .iface 263 (.pointer (some a)), .bool true] w fun e w' => e = .returned (.bool true) ∧ Below w.heap.size w w' := by
  obtain ⟨i, hi, hcmp⟩ := Option.map_eq_some_iff.1 isComp
  obtain ⟨j, hj, hjs⟩ := Option.map_eq_some_iff.1 isSize
  have heq := fun W => run_eql_iface_ptr_same (P := Tryz.prog) W a Tryz.underlying58 Tryz.underlying263 hi hcmp hj
  have heq0 := fun W => run_eql_iface_types (P := Tryz.prog) 70 263 (.agg #[.int .i64 k, .iface 263 (.pointer (some a))]) (.pointer (some a)) Tryz.underlying58 (by decide) W
  have nI := noIsL
  have uH := hasUnwrapL
  have mU := methodUnwrapL
  have hif : Tryz.prog.isIface 58 = true := by kernel_rfl
  have HU := Lib.hid (unwrap_any k a)
  go_enter Tryz.func132, Tryz.ntmps132
  go_wp2
  refine wp_loop_rounds 2 ?_
  rw [rounds_succ]
  go_wp2_with fail
  refine (HU.out _).mono ?_
  rintro e w1 ⟨rfl, hb⟩
  have HB := Lib.hid hb
  clear hb
  go_wp2
  rw [rounds_succ]
  go_wp2
  go_ret
  exact ⟨rfl, HB.out⟩
theorem is0L_other (k : Int) (a b : Addr) (ca cb : Array Value) (ta tb : TypeId) (w : World) (hne : a ≠ b) (ha : w.heap[a.block]? = some (.cells ca ta (0, 0))) (hb : w.heap[b.block]? = some (.cells cb tb (0, 0))) :
    Calls Tryz.prog 132 #[.iface 70 (.agg #[.int .i64 k, .iface 263 (.pointer (some a))]), .iface 263 (.pointer (some b)), .bool true] w fun e w' => e = .returned (.bool false) ∧ Below w.heap.size w w' := by
  obtain ⟨i, hi, hcmp⟩ := Option.map_eq_some_iff.1 isComp
  obtain ⟨j, hj, hjs⟩ := Option.map_eq_some_iff.1 isSize
  have HEQ := Lib.hid (fun W (h1 : W.heap[a.block]? = some (.cells ca ta (0, 0))) (h2 : W.heap[b.block]? = some (.cells cb tb (0, 0))) => run_eql_iface_ptr_other (P := Tryz.prog) W Tryz.underlying58 Tryz.underlying263 hi hcmp hj (by rw [hjs]; decide) hne h1 h2)
  have heq0 := fun W => run_eql_iface_types (P := Tryz.prog) 70 263 (.agg #[.int .i64 k, .iface 263 (.pointer (some a))]) (.pointer (some b)) Tryz.underlying58 (by decide) W
  have nI := noIsL
  have uH := hasUnwrapL
  have mU := methodUnwrapL
  have nE := noIsE
  have uE := noUnwrapE
  have vE := noUnwrapsE
  have hif : Tryz.prog.isIface 58 = true := by kernel_rfl
  have HU := Lib.hid (unwrap_any k a)
  have HA := Lib.hid (And.intro ha hb)
  clear ha hb
  go_enter Tryz.func132, Tryz.ntmps132
  go_wp2
  refine wp_loop_rounds 2 ?_
  rw [rounds_succ]
  go_wp2_with fail
  refine (HU.out _).mono ?_
  rintro e w1 ⟨rfl, hb⟩
  have HB := Lib.hid hb
  have heq := HEQ.out w1 (by rw [hb.block _ (Array.getElem?_eq_some_iff.1 HA.out.1).1]; exact HA.out.1) (by rw [hb.block _ (Array.getElem?_eq_some_iff.1 HA.out.2).1]; exact HA.out.2)
  clear hb
  go_wp2
  rw [rounds_succ]
  go_wp2
  go_ret
  exact ⟨rfl, HB.out⟩

theorem isL_same (k : Int) (a : Addr) (w : World) :
    Calls Tryz.prog 62 #[.iface 70 (.agg #[.int .i64 k, .iface 263 (.pointer (some a))]), .iface 263 (.pointer (some a))] w fun e w' => e = .returned (.bool true) ∧ Below w.heap.size w w' := by
  have h8 := @run_callFunc_extern Tryz.prog 131 _ Extern.ReflectliteType.typeOf Tryz.func131 (by kernel_rfl) (by kernel_rfl) (by kernel_rfl) (by kernel_rfl)
  have h32 := callComparable
  have tT := isTypeOf
  have mR := isMethodComparable
  have hif : Tryz.prog.isIface 58 = true := by kernel_rfl
  have HI := is0L_same k a
  go_enter Tryz.func62, Tryz.ntmps62
  go_wp2_with fail
  refine (HI _).mono ?_
  rintro e w1 ⟨rfl, hb⟩
  have HB := Lib.hid hb
  clear hb
  go_wp2
  go_ret
  exact ⟨rfl, HB.out⟩
theorem isL_other (k : Int) (a b : Addr) (ca cb : Array Value) (ta tb : TypeId) (w : World) (hne : a ≠ b) (ha : w.heap[a.block]? = some (.cells ca ta (0, 0))) (hb : w.heap[b.block]? = some (.cells cb tb (0, 0))) :
    Calls Tryz.prog 62 #[.iface 70 (.agg #[.int .i64 k, .iface 263 (.pointer (some a))]), .iface 263 (.pointer (some b))] w fun e w' => e = .returned (.bool false) ∧ Below w.heap.size w w' := by
  have h8 := @run_callFunc_extern Tryz.prog 131 _ Extern.ReflectliteType.typeOf Tryz.func131 (by kernel_rfl) (by kernel_rfl) (by kernel_rfl) (by kernel_rfl)
  have h32 := callComparable
  have tT := isTypeOf
  have mR := isMethodComparable
  have hif : Tryz.prog.isIface 58 = true := by kernel_rfl
  have HI := is0L_other k a b ca cb ta tb w hne ha hb
  clear ha hb
  go_enter Tryz.func62, Tryz.ntmps62
  go_wp2_with fail
  refine HI.mono ?_
  rintro e w1 ⟨rfl, hb⟩
  have HB := Lib.hid hb
  clear hb
  go_wp2
  go_ret
  exact ⟨rfl, HB.out⟩

/-- What an outcome of a script's line says. -/
theorem saidL_any (pn pw : Addr) (k : Nat) (n b : Int) (rp : Rp) (w : World) (h : Env w pn pw) : Calls Tryz.prog 38 #[.agg #[.int .i64 n, .int .i64 b, str (rpS rp), rpL pn pw k rp]] w fun e w' => e = .returned (str rp.txt) ∧ Below w.heap.size w w' := by
  cases rp with
  | say t => exact said_any pn pw n b (.say t) w h
  | no =>
    have HN := Lib.hid (isL_same ((k : Int) + 1) pn)
    have E1 := Lib.hid (h.keep (one_below w (.cells #[.int .i64 n, .int .i64 b, str [], .iface 70 (.agg #[.int .i64 ((k : Int) + 1), .iface 263 (.pointer (some pn))])] 60)))
    have c1 := E1.out.no
    obtain ⟨k1, hk1⟩ : ∃ k1, k1 = (k : Int) + 1 := ⟨_, rfl⟩
    dsimp only [rpS, rpL, rpE, Rp.txt]
    rw [← hk1] at HN E1 c1 ⊢
    clear h hk1
    go_enter Tryz.func38, Tryz.ntmps38
    go_wp2_with fail
    refine (HN.out _).mono ?_
    rintro e w1 ⟨rfl, hb⟩
    have HB := Lib.hid ((one_below _ _).trans (hb.mono (one_below _ _).size))
    clear hb c1
    go_wp2
    go_ret
    exact ⟨rfl, HB.out⟩
  | what =>
    have HW := Lib.hid (isL_same ((k : Int) + 1) pw)
    have E1 := Lib.hid (h.keep (one_below w (.cells #[.int .i64 n, .int .i64 b, str [], .iface 70 (.agg #[.int .i64 ((k : Int) + 1), .iface 263 (.pointer (some pw))])] 60)))
    have c1 := E1.out.no
    obtain ⟨ca, ta, h1⟩ := E1.out.rowW
    obtain ⟨cb, tb, h2⟩ := E1.out.rowN
    have HN := Lib.hid (isL_other ((k : Int) + 1) pw pn ca cb ta tb _ E1.out.ne.symm h1 h2)
    obtain ⟨k1, hk1⟩ : ∃ k1, k1 = (k : Int) + 1 := ⟨_, rfl⟩
    dsimp only [rpS, rpL, rpE, Rp.txt]
    rw [← hk1] at HN HW E1 c1 ⊢
    clear h hk1 h1 h2
    go_enter Tryz.func38, Tryz.ntmps38
    go_wp2_with fail
    refine HN.out.mono ?_
    rintro e w1 ⟨rfl, hb⟩
    have c2 := (E1.out.keep hb).what
    have c3 := (hb.cell (p := ⟨w.heap.size, 3, none⟩) (by simp)).trans (show (w.alloc (.cells #[.int .i64 n, .int .i64 b, str [], .iface 70 (.agg #[.int .i64 k1, .iface 263 (.pointer (some pw))])] 60)).cell? ⟨w.heap.size, 3, none⟩ = some (.iface 70 (.agg #[.int .i64 k1, .iface 263 (.pointer (some pw))])) by simp [go_sem])
    have HB := Lib.hid ((one_below _ _).trans (hb.mono (one_below _ _).size))
    clear hb c1
    go_wp2_with fail
    refine (HW.out _).mono ?_
    rintro e w2 ⟨rfl, hb⟩
    have HB2 := Lib.hid (HB.out.trans (hb.mono HB.out.size))
    clear hb c2 c3
    go_wp2
    go_ret
    exact ⟨rfl, HB2.out⟩

end Go.Proofs.YtlbjeiaihenjkaaGreatDoor

/- from X3: errors.As at a line's failure: closed facts of the model's entries.  -/
namespace Go.Proofs.YtlbjeiaihenjkaaGreatDoor
open Go.RowKit Go.Extern
set_option linter.unusedVariables false
set_option linter.unusedSimpArgs false
set_option maxRecDepth 100000

/-- errors.As(nil, target). -/
theorem as_nil (t : Value) (w : World) :
    Calls Tryz.prog 42 #[.nilIface, t] w fun e w' => e = .returned (.bool false) ∧ w' = w := by
  have hif : Tryz.prog.isIface 58 = true := by kernel_rfl
  go_enter Tryz.func42, Tryz.ntmps42
  go_wp2
  go_ret
  exact ⟨rfl, rfl⟩
theorem asValueOfP (t : Addr) (w : World) : (ReflectliteValue.unpack (.iface 72 (.pointer (some t)))).run Tryz.prog w
    = .ok (.agg #[.pointer (some ⟨9, 72, none⟩), .pointer (some ⟨w.heap.size, 0, none⟩), .int .u64 150]) (w.alloc (.cells #[.pointer (some t)] 72)) := by kernel_rfl
theorem asTypeP (a : Addr) (w : World) : (ReflectliteValue.methodAny (ReflectliteValue.valueError "reflectlite.Value.Type" 0) (fun t _ _ _ => ReflectliteType.toType t) #[.agg #[.pointer (some ⟨9, 72, none⟩), .pointer (some a), .int .u64 150]]).run Tryz.prog w
    = .ok (.iface 142 (.agg #[.pointer (some ⟨9, 72, none⟩)])) w := by kernel_rfl
theorem asElemP (w : World) : (ReflectliteType.method ReflectliteType.elem #[.agg #[.pointer (some ⟨9, 72, none⟩)]]).run Tryz.prog w = .ok (.iface 142 (.agg #[.pointer (some ⟨9, 70, none⟩)])) w := by kernel_rfl
theorem asTypeOfL (v : Value) (w : World) : (ReflectliteType.typeOf #[.iface 70 v]).run Tryz.prog w = .ok (.iface 142 (.agg #[.pointer (some ⟨9, 70, none⟩)])) w := by kernel_rfl
theorem asImplL (w : World) : (ReflectliteType.relation "Implements" ReflectliteType.implements_ #[.agg #[.pointer (some ⟨9, 70, none⟩)], .iface 142 (.agg #[.pointer (some ⟨9, 58, none⟩)])]).run Tryz.prog w = .ok (.bool true) w := by kernel_rfl
theorem asAssignL (w : World) : (ReflectliteType.relation "AssignableTo" ReflectliteType.assignableTo #[.agg #[.pointer (some ⟨9, 70, none⟩)], .iface 142 (.agg #[.pointer (some ⟨9, 70, none⟩)])]).run Tryz.prog w = .ok (.bool true) w := by kernel_rfl
theorem asMethodElem (h : Value) (w : World) : (Go.method 396 142 (.agg #[h]) "Elem").run Tryz.prog w = .ok (316, .agg #[h]) w := by kernel_rfl
theorem asMethodImpl (h : Value) (w : World) : (Go.method 396 142 (.agg #[h]) "Implements").run Tryz.prog w = .ok (317, .agg #[h]) w := by kernel_rfl
theorem asMethodAssign (h : Value) (w : World) : (Go.method 396 142 (.agg #[h]) "AssignableTo").run Tryz.prog w = .ok (314, .agg #[h]) w := by kernel_rfl
theorem asValueOfL (k : Int) (a : Addr) (w : World) : (ReflectliteValue.unpack (.iface 70 (.agg #[.int .i64 k, .iface 263 (.pointer (some a))]))).run Tryz.prog w
    = .ok (.agg #[.pointer (some ⟨9, 70, none⟩), .pointer (some ⟨w.heap.size, 0, none⟩), .int .u64 153]) (w.alloc (.cells #[.int .i64 k, .iface 263 (.pointer (some a))] 70)) := by kernel_rfl
theorem asPartsP (a : Addr) (w : World) : (ReflectliteValue.parts (.agg #[.pointer (some ⟨9, 72, none⟩), .pointer (some a), .int .u64 150])).run Tryz.prog w = .ok (some (72, a, 150)) w := by kernel_rfl
theorem asPartsA (a : Addr) (w : World) : (ReflectliteValue.parts (.agg #[.pointer (some ⟨9, 70, none⟩), .pointer (some a), .int .u64 409])).run Tryz.prog w = .ok (some (70, a, 409)) w := by kernel_rfl
theorem asPartsL (a : Addr) (w : World) : (ReflectliteValue.parts (.agg #[.pointer (some ⟨9, 70, none⟩), .pointer (some a), .int .u64 153])).run Tryz.prog w = .ok (some (70, a, 153)) w := by kernel_rfl
theorem asElemOf (w : World) : (Rtype.elem? 72).run Tryz.prog w = .ok (some 70) w := by kernel_rfl
theorem asMk (p : Addr) (w : World) : (ReflectliteValue.mk 70 p ReflectliteValue.flagAddr).run Tryz.prog w = .ok (.agg #[.pointer (some ⟨9, 70, none⟩), .pointer (some p), .int .u64 409]) w := by kernel_rfl
theorem asDirect (w : World) : (Rtype.directlyAssignable 70 70).run Tryz.prog w = .ok true w := by kernel_rfl

end Go.Proofs.YtlbjeiaihenjkaaGreatDoor

/- from X4: errors.As at a line's failure: what reads and writes memory.  -/
namespace Go.Proofs.YtlbjeiaihenjkaaGreatDoor
open Go.RowKit Go.Extern
set_option linter.unusedVariables false
set_option linter.unusedSimpArgs false
set_option maxRecDepth 100000

theorem infoFL : (Tryz.prog.info? 70).map (·.size) = some 2 := by kernel_rfl
theorem load_fl (w : World) (s : Nat) (x0 x1 : Value) (h0 : w.cell? ⟨s, 0, none⟩ = some x0) (h1 : w.cell? ⟨s, 1, none⟩ = some x1) : (loadVar 70 ⟨s, 0, none⟩).run Tryz.prog w = .ok (.agg #[x0, x1]) w :=
  load_struct Tryz.underlying70 rfl [x0, x1] infoFL w s (fun j v hv => by
    match j, hv with
    | 0, hv => simp at hv; subst hv; exact h0
    | 1, hv => simp at hv; subst hv; exact h1
    | j + 2, hv => simp at hv)
theorem method_some {z : Sem Value} {f : TypeId → Addr → Nat → Nat → Sem Value} {v : Value} {t : TypeId} {a : Addr} {fl : Nat} {W : World} (h : (ReflectliteValue.parts v).run Tryz.prog W = .ok (some (t, a, fl)) W) :
    (ReflectliteValue.method z f #[v]).run Tryz.prog W = (f t a fl (fl % 32)).run Tryz.prog W := by
  show (ReflectliteValue.parts v >>= _).run Tryz.prog W = _
  rw [Sem.run_bind, h]
  rfl
theorem asIsNil (a p : Addr) (W : World) (ha : W.cell? a = some (.pointer (some p))) :
    (ReflectliteValue.method (ReflectliteValue.valueError "reflectlite.Value.IsNil" 0) ReflectliteValue.isNil #[.agg #[.pointer (some ⟨9, 72, none⟩), .pointer (some a), .int .u64 150]]).run Tryz.prog W = .ok (.bool false) W := by
  rw [method_some (asPartsP a W)]
  simp [ReflectliteValue.isNil, loadVar, isAgg, underlying, Tryz.underlying72, ha, Result.andThen]
theorem asElemV (a p : Addr) (W : World) (ha : W.cell? a = some (.pointer (some p))) :
    (ReflectliteValue.method (ReflectliteValue.valueError "reflectlite.Value.Elem" 0) ReflectliteValue.elem #[.agg #[.pointer (some ⟨9, 72, none⟩), .pointer (some a), .int .u64 150]]).run Tryz.prog W
      = .ok (.agg #[.pointer (some ⟨9, 70, none⟩), .pointer (some p), .int .u64 409]) W := by
  rw [method_some (asPartsP a W)]
  simp [ReflectliteValue.elem, loadVar, isAgg, underlying, Tryz.underlying72, ha, Result.andThen, asElemOf, asMk]

end Go.Proofs.YtlbjeiaihenjkaaGreatDoor

/- from X5: errors.As sets the failed line.  -/
namespace Go.Proofs.YtlbjeiaihenjkaaGreatDoor
open Go.RowKit Go.Extern
set_option linter.unusedVariables false
set_option linter.unusedSimpArgs false
set_option maxRecDepth 100000

theorem asSet (tb b : Nat) (x0 x1 : Value) (ho0 : x0.oneCell' = true) (ho1 : x1.oneCell' = true) (W : World) (hb0 : W.cell? ⟨b, 0, none⟩ = some x0) (hb1 : W.cell? ⟨b, 1, none⟩ = some x1) (hc0 : x0.cells = #[x0]) (hc1 : x1.cells = #[x1]) (hB : Box2 W tb) :
    (ReflectliteValue.set #[.agg #[.pointer (some ⟨9, 70, none⟩), .pointer (some ⟨tb, 0, none⟩), .int .u64 409], .agg #[.pointer (some ⟨9, 70, none⟩), .pointer (some ⟨b, 0, none⟩), .int .u64 153]]).run Tryz.prog W
      = .ok (.tuple #[]) (set2 W tb x0 x1) := by
  obtain ⟨y0, e0⟩ := hB.cell 0 (by omega)
  obtain ⟨y1, e1⟩ := hB.cell 1 (by omega)
  have hl := load_fl W b x0 x1 hb0 hb1
  have e1' : (W.setCell ⟨tb, 0, none⟩ x0).cell? ⟨tb, 1, none⟩ = some y1 := (World.cell?_setCell_other _ _ _ _ (fun e => by simp at e)).trans e1
  have f1 : (W.setCell ⟨tb, 0, none⟩ x0).frozen? ⟨tb, 1, none⟩ = false := by have := hB.free 1; simpa [go_sem] using this
  have s0 := run_store Tryz.prog W ⟨tb, 0, none⟩ x0 .plain ho0
  have s1 := run_store Tryz.prog (W.setCell ⟨tb, 0, none⟩ x0) ⟨tb, 1, none⟩ x1 .plain ho1
  rw [e0, hB.free 0] at s0
  rw [e1', f1] at s1
  simp at s0 s1
  show (ReflectliteValue.parts (.agg #[.pointer (some ⟨9, 70, none⟩), .pointer (some ⟨tb, 0, none⟩), .int .u64 409]) >>= _).run Tryz.prog W = _
  rw [Sem.run_bind, asPartsA]
  simp only [Result.andThen]
  show (ReflectliteValue.parts (.agg #[.pointer (some ⟨9, 70, none⟩), .pointer (some ⟨b, 0, none⟩), .int .u64 153]) >>= _).run Tryz.prog W = _
  rw [Sem.run_bind, asPartsL]
  simp only [Result.andThen]
  simp [ReflectliteValue.flagAddr, hl, Result.andThen, asDirect, storeVar, Value.cells, hc0, hc1, storeCells, Addr.add, s0, s1]

end Go.Proofs.YtlbjeiaihenjkaaGreatDoor

/- from X6: errors.as at a line's failure.  -/
namespace Go.Proofs.YtlbjeiaihenjkaaGreatDoor
open Go.RowKit Go.Extern
set_option linter.unusedVariables false
set_option linter.unusedSimpArgs false
set_option maxRecDepth 100000

set_option maxHeartbeats 4000000 in
theorem as0_hit (k : Int) (e : Addr) (tb a : Nat) (w : World) (ha : w.cell? ⟨a, 0, none⟩ = some (.pointer (some ⟨tb, 0, none⟩))) (hB : Box2 w tb) (htb : tb < w.heap.size) :
    Calls Tryz.prog 68 #[.iface 70 (.agg #[.int .i64 k, .iface 263 (.pointer (some e))]), .iface 72 (.pointer (some ⟨tb, 0, none⟩)), .agg #[.pointer (some ⟨9, 72, none⟩), .pointer (some ⟨a, 0, none⟩), .int .u64 150], .iface 142 (.agg #[.pointer (some ⟨9, 70, none⟩)])] w fun ev w' => ev = .returned (.bool true) ∧ ∃ W, Below w.heap.size w W ∧ w' = set2 W tb (.int .i64 k) (.iface 263 (.pointer (some e))) := by
  have h10 := @run_callFunc_extern Tryz.prog 131 _ Extern.ReflectliteType.typeOf Tryz.func131 (by kernel_rfl) (by kernel_rfl) (by kernel_rfl) (by kernel_rfl)
  have h35 := @run_callFunc_extern Tryz.prog 314 _ (ReflectliteType.relation "AssignableTo" ReflectliteType.assignableTo) Tryz.func314 (by kernel_rfl) (by kernel_rfl) (by kernel_rfl) (by kernel_rfl)
  have h11 := @run_callFunc_extern Tryz.prog 133 _ (ReflectliteValue.method (ReflectliteValue.valueError "reflectlite.Value.Elem" 0) ReflectliteValue.elem) Tryz.func133 (by kernel_rfl) (by kernel_rfl) (by kernel_rfl) (by kernel_rfl)
  have h12 := @run_callFunc_extern Tryz.prog 134 _ ReflectliteValue.set Tryz.func134 (by kernel_rfl) (by kernel_rfl) (by kernel_rfl) (by kernel_rfl)
  have h6 := @run_callFunc_extern Tryz.prog 65 _ (fun args => ReflectliteValue.unpack (args.getD 0 (.tuple #[]))) Tryz.func65 (by kernel_rfl) (by kernel_rfl) (by kernel_rfl) (by kernel_rfl)
  have tO := asTypeOfL
  have mA := asMethodAssign
  have aL := asAssignL
  have vL := asValueOfL k e
  obtain ⟨o1, ho1⟩ : ∃ o1, o1 = Obj.cells #[.pointer (some ⟨9, 72, none⟩), .pointer (some ⟨a, 0, none⟩), .int .u64 150] 98 := ⟨_, rfl⟩
  have alt : a < w.heap.size := cell_lt ha
  have el := asElemV ⟨a, 0, none⟩ ⟨tb, 0, none⟩ (w.alloc o1) (((alloc_belowD w o1).cell (p := ⟨a, 0, none⟩) alt).trans ha)
  have b2 := two_below w o1 (.cells #[.int .i64 k, .iface 263 (.pointer (some e))] 70)
  have st := asSet tb (w.heap.size + 1) (.int .i64 k) (.iface 263 (.pointer (some e))) rfl rfl ((w.alloc o1).alloc (.cells #[.int .i64 k, .iface 263 (.pointer (some e))] 70)) (by simp [go_sem]) (by simp [go_sem]) rfl rfl (hB.keep b2 htb)
  have HBL := Lib.hid b2
  rw [ho1] at el st HBL
  clear ho1 b2 hB ha
  go_enter Tryz.func68, Tryz.ntmps68
  go_wp2
  refine wp_loop_rounds 1 ?_
  rw [rounds_succ]
  go_wp2
  go_ret
  exact ⟨rfl, _, HBL.out, rfl⟩

end Go.Proofs.YtlbjeiaihenjkaaGreatDoor
