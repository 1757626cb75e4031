/-
  The law of LongestTail: at every width and base the program's function answers as its model, and its arguments read behind the call as before.
  Conditions: none beside the form's own. (Joint text of PF and LLongestTail, wip/tools/merge.py.)
-/
import Derived.Test.YtadjjmlneghklaaRows
import Derived.ProofKit
import Derived.Test.YtadjjmlneghklaaGZ
import Derived.Test.YtadjjmlneghklaaO
import Derived.OpenShut
import Derived.SizedLaws
/- from XPF -/
namespace Go.Proofs.Ytadjjmlneghklaa.whole
set_option linter.unusedVariables false

theorem laid : laidOutB Try.pinned.checked.prog = true := by kernel_rfl
theorem rowed : mapsRowed Try.pinned.checked.prog = true := by kernel_rfl
theorem plain : Try.pinned.checked.prog.plainKeys = true := by kernel_rfl
theorem heard : Try.pinned.checked.prog.stopsHeard = true := by kernel_rfl
theorem heads : (Try.pinned.checked.prog.mayEnter && (!Try.pinned.checked.prog.liftsFinal && (Try.pinned.checked.prog.make == some .cut))) = true := by kernel_rfl
theorem enter : Try.pinned.checked.prog.mayEnter = true := (Bool.and_eq_true _ _ ▸ heads).1
theorem lifts : Try.pinned.checked.prog.liftsFinal = false := by have h := heads; simp only [Bool.and_eq_true, Bool.not_eq_true'] at h; exact h.2.1
theorem made : Try.pinned.checked.prog.make = some .cut := by have h := heads; simp only [Bool.and_eq_true, beq_iff_eq] at h; exact h.2.2

end Go.Proofs.Ytadjjmlneghklaa.whole

/- from XLLongestTail -/
namespace Go.Proofs.Ytadjjmlneghklaa.fnExactLongestTail
open Go.ChangeShapes Go.WideShapes Go.ChangeAt Go.RowKit
set_option linter.unusedVariables false

theorem own : ownKnob Try.prog.godebug = none := by kernel_rfl
theorem laidOut : laidOutB Try.prog = true := by kernel_rfl
theorem cellsI : Try.prog.cellsOf 3 = 1 := by kernel_rfl

set_option maxRecDepth 100000 in
theorem lifted (os : Os) (started : os.Started) (H : Type) (enc : TypeId × Value → H) :
    ReturnsInHanded {} Try.checked os 6 .any (Rows.fnExactLongestTailSpec.pre6 enc Try.prog Try.f6 Rows.fnExactLongestTailRow.domain false) (Rows.fnExactLongestTailSpec.post enc Try.prog Try.f6 false true false false) := by
  refine returnsInHanded_of_change (C := Try.checked) own started (by kernel_rfl) Try.func6
    (ChangeSpec.witness6 (enc := enc) (C := Try.checked) false ⟨#[], #[.int .i64 0, .int .i64 0], []⟩ 8 (by kernel_rfl) (by kernel_rfl) (by kernel_rfl) (by kernel_rfl)) ?_
  intro W base args ds gs before hval0 hW hcnd _
  have hval : ∀ (j : Nat) t v, Try.f6.params[j]? = some t → args[j]? = some v → Value.okWide Try.prog W .any base t v := hval0
  have hW' := hW
  obtain ⟨p, q, hA0, hV, rfl, hfz, hnd⟩ := hW
  have hA : DataW.TrodAll enc Try.prog W 0 (fun _ => true) true Try.f6.params.toList args.toList ds p := hA0
  rw [Try.params6] at hA hval
  obtain ⟨v0, vs0, d0, ds0, p0, q0, hargs, rfl, rfl, h0, r0⟩ := trodAll_cons hA
  obtain ⟨v1, vs1, d1, ds1, p1, q1, rfl, rfl, rfl, h1, r1⟩ := trodAll_cons r0
  obtain ⟨rfl, rfl, rfl⟩ := trodAll_nil r1
  obtain rfl : args = #[v0, v1] := by cases args; simp_all
  obtain ⟨rfl, rfl⟩ := trodVars_none hV
  obtain ⟨a0, rfl, rfl, rfl, w0⟩ := open_int Try.underlying3 (hval 0 3 v0 rfl rfl) h0
  obtain ⟨a1, rfl, rfl, rfl, w1⟩ := open_int Try.underlying3 (hval 1 3 v1 rfl rfl) h1
  clear hA0 hval0
  simp only [List.append_nil] at hW'
  refine (law_LongestTail a0 a1 W).mono fun e W' ⟨he, hg⟩ => ?_
  subst he
  exact ⟨_, rfl, _, _, _, [], _, [], hW', (trodAll_cons_mk (shut_bool Try.underlying4 _) trodAll_mk0), (trodAll_cons_mk (shut_int Try.underlying3 w0) (trodAll_cons_mk (shut_int Try.underlying3 w1) trodAll_mk0)), rfl, hg.frame _, fun h => by cases h⟩

theorem closed : joinedFacts Try.pinned.checked.prog 6 Try.f6 Rows.fnExactLongestTailSpec Rows.fnExactLongestTailRow = true := by
  unfold joinedFacts
  rw [whole.laid, whole.rowed, whole.plain, whole.heard, whole.enter, whole.lifts, whole.made]
  kernel_rfl

theorem over : Rows.fnExactLongestTailRow.holds Try.pinned (OpenSpec.ofChange Rows.fnExactLongestTailSpec) :=
  OpenClaim.holds_of_wide 6 Try.f6 rfl rfl rfl rfl rfl rfl rfl ⟨rfl, rfl, rfl, rfl, rfl⟩ rfl rfl rfl rfl rfl (by kernel_rfl) Try.func6 closed
    (of_decide_eq_true (by kernel_rfl)) (by unfold Func.isWrapper; first | (rw [if_pos (by decide +kernel)]; kernel_rfl) | (rw [if_neg (by decide +kernel)]; exact ⟨rfl, rfl⟩))
    (fun os started H enc _ => lifted os started H enc)

/-- THE STATEMENT. -/
theorem proved : Rows.FnExactLongestTailSaid :=
  over
#print axioms proved
end Go.Proofs.Ytadjjmlneghklaa.fnExactLongestTail
