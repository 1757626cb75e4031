/-
  Joint text of X7, X8: what each proves stands ahead of it.
-/
import Derived.Test.YtlbjeiaihenjkaaGreatDoorJ47
import Derived.Test.YtlbjeiaihenjkaaGreatDoorJ45
/- from X7: errors.As at a line's failure.  -/
namespace Go.Proofs.YtlbjeiaihenjkaaGreatDoor
open Go.RowKit Go.Extern
set_option linter.unusedVariables false
set_option linter.unusedSimpArgs false
set_option maxRecDepth 100000

theorem asMethodKind (h : Value) (w : World) : (Go.method 396 142 (.agg #[h]) "Kind").run Tryz.prog w = .ok (303, h) w := by kernel_rfl
theorem asKindP (w : World) : ((ReflectliteType.abiMethod fun t => (fun a : Nat => Value.int IntKind.u8 (a : Int)) <$> Rtype.kind t) #[.pointer (some ⟨9, 72, none⟩)]).run Tryz.prog w = .ok (.int .u8 22) w := by kernel_rfl
theorem asKindL (w : World) : ((ReflectliteType.abiMethod fun t => (fun a : Nat => Value.int IntKind.u8 (a : Int)) <$> Rtype.kind t) #[.pointer (some ⟨9, 70, none⟩)]).run Tryz.prog w = .ok (.int .u8 25) w := by kernel_rfl

set_option maxHeartbeats 4000000 in
theorem as_hit (k : Int) (e : Addr) (tb : Nat) (w : World) (hg : w.cell? ⟨2, 0, none⟩ = some (.iface 142 (.agg #[.pointer (some ⟨9, 58, none⟩)]))) (hB : Box2 w tb) (htb : tb < w.heap.size) :
    Calls Tryz.prog 42 #[.iface 70 (.agg #[.int .i64 k, .iface 263 (.pointer (some e))]), .iface 72 (.pointer (some ⟨tb, 0, none⟩))] w fun ev w' => ev = .returned (.bool true) ∧ ∃ W, Below w.heap.size w W ∧ w' = set2 W tb (.int .i64 k) (.iface 263 (.pointer (some e))) := by
  have h6 := @run_callFunc_extern Tryz.prog 65 _ (fun args => ReflectliteValue.unpack (args.getD 0 (.tuple #[]))) Tryz.func65 (by kernel_rfl) (by kernel_rfl) (by kernel_rfl) (by kernel_rfl)
  have h7 := @run_callFunc_extern Tryz.prog 66 _ (ReflectliteValue.methodAny (ReflectliteValue.valueError "reflectlite.Value.Type" 0) (fun t _ _ _ => ReflectliteType.toType t)) Tryz.func66 (by kernel_rfl) (by kernel_rfl) (by kernel_rfl) (by kernel_rfl)
  have h8 := @run_callFunc_extern Tryz.prog 67 _ (ReflectliteValue.method (ReflectliteValue.valueError "reflectlite.Value.IsNil" 0) ReflectliteValue.isNil) Tryz.func67 (by kernel_rfl) (by kernel_rfl) (by kernel_rfl) (by kernel_rfl)
  have h27 := @run_callFunc_extern Tryz.prog 303 _ (ReflectliteType.abiMethod fun t => do pure (.int .u8 (← Rtype.kind t))) Tryz.func303 (by kernel_rfl) (by kernel_rfl) (by kernel_rfl) (by kernel_rfl)
  have h37 := @run_callFunc_extern Tryz.prog 316 _ (ReflectliteType.method ReflectliteType.elem) Tryz.func316 (by kernel_rfl) (by kernel_rfl) (by kernel_rfl) (by kernel_rfl)
  have h38 := @run_callFunc_extern Tryz.prog 317 _ (ReflectliteType.relation "Implements" ReflectliteType.implements_) Tryz.func317 (by kernel_rfl) (by kernel_rfl) (by kernel_rfl) (by kernel_rfl)
  have f6 := asValueOfP
  have f7 := asTypeP
  have mK := asMethodKind
  have mE := asMethodElem
  have mI := asMethodImpl
  have kP := asKindP
  have kL := asKindL
  have eP := asElemP
  have iL := asImplL
  have hif : Tryz.prog.isIface 58 = true := by kernel_rfl
  go_enter Tryz.func42, Tryz.ntmps42
  obtain ⟨o1, ho1⟩ : ∃ o1, o1 = Obj.cells #[.pointer (some ⟨tb, 0, none⟩)] 72 := ⟨_, rfl⟩
  obtain ⟨o2, ho2⟩ : ∃ o2, o2 = Obj.cells #[.pointer (some ⟨9, 72, none⟩), .pointer (some ⟨w.heap.size, 0, none⟩), .int .u64 150] 98 := ⟨_, rfl⟩
  have b2 := two_below w o1 o2
  have hgl := cell_lt hg
  have ht0 : ((w.alloc o1).alloc o2).cell? ⟨w.heap.size, 0, none⟩ = some (.pointer (some ⟨tb, 0, none⟩)) := by rw [ho1]; simp [go_sem]
  have n8 := asIsNil ⟨w.heap.size, 0, none⟩ ⟨tb, 0, none⟩ _ ht0
  have hg2 := (b2.cell (p := ⟨2, 0, none⟩) hgl).trans hg
  have HA := Lib.hid (as0_hit k e tb w.heap.size _ ht0 (hB.keep b2 htb) (Nat.lt_of_lt_of_le htb b2.size))
  have HBL := Lib.hid b2
  rw [ho1, ho2] at n8 hg2 HA HBL
  clear ho1 ho2 b2 hB ht0
  go_wp2_with fail
  refine HA.out.mono ?_
  rintro ev w' ⟨rfl, W, hW, rfl⟩
  have HW := Lib.hid (HBL.out.trans (hW.mono HBL.out.size))
  clear hW
  go_wp2
  go_ret
  exact ⟨rfl, W, HW.out, rfl⟩

end Go.Proofs.YtlbjeiaihenjkaaGreatDoor

/- from X8: The program's failed lines: texts that are no script.  -/
namespace Go.Proofs.YtlbjeiaihenjkaaGreatDoor
open Go.RowKit
set_option linter.unusedVariables false
set_option linter.unusedSimpArgs false
set_option maxRecDepth 100000

theorem impl_FailedLines_bad (S : Tx) (hn : ¬ scOk S) (pn pw : Addr) (w : World) (h : Env w pn pw) :
    Calls Tryz.prog 21 #[str S] w fun e w' => e = .returned (.tuple #[.slice none 0 0, .bool false]) ∧ Below w.heap.size w w' := by
  have HK := Lib.hid (runScript_bad S hn pn pw w h)
  clear h hn
  go_enter Tryz.func21, Tryz.ntmps21
  go_wp2_with fail
  refine HK.out.mono ?_
  rintro e w1 ⟨rfl, hb⟩
  have HB := Lib.hid hb
  clear hb
  go_wp2
  go_ret2
  exact ⟨rfl, HB.out⟩

end Go.Proofs.YtlbjeiaihenjkaaGreatDoor
