/-
  The law of DeskLines and its card: for every input the program's function answers as its model, and its arguments read behind the call as before.
  Conditions: the listed variables hold what their text lays (of these the walk reads the two errors and the table of powers of ten).
-/
import Derived.Test.YtlbjeiaihenjkaaGreatDoorCards
import Derived.Test.YtlbjeiaihenjkaaGreatDoorTie
import Derived.Test.YtlbjeiaihenjkaaGreatDoorJ53
import Derived.Test.YtlbjeiaihenjkaaGreatDoorJ43
import Derived.Test.YtlbjeiaihenjkaaGreatDoorJ51
import Derived.WalkKit
import Derived.WalkSmall
import Derived.ProofKit
import Derived.OpenShut
import Derived.SizedLaws
import Derived.Deep.DeepHandedRow
import Derived.Lib.LaidTab
import Derived.Lib.SmallJoins
import Derived.Stop.LaidTwo
import Derived.Shelf.Vars
import Derived.LaidHandle
namespace Go.Proofs.YtlbjeiaihenjkaaGreatDoor.fnDeskLines
open Go.ChangeShapes Go.WideShapes Go.ChangeAt Go.RowKit Go.Joins
set_option linter.unusedVariables false

theorem own : ownKnob Tryz.prog.godebug = none := by kernel_rfl
theorem laidOut : laidOutB Tryz.prog = true := by kernel_rfl
theorem cellsD : Tryz.prog.cellsOf 23 = 2 := by kernel_rfl
theorem cellsE : Tryz.prog.cellsOf 284 = 1 := by kernel_rfl
theorem cellsS : Tryz.prog.cellsOf 9 = 1 := by kernel_rfl
theorem gNo : Tryz.prog.globalNamed "loop.example/g01151/impl.errNo" = some 1 := by kernel_rfl
theorem gWhat : Tryz.prog.globalNamed "loop.example/g01151/impl.errWhat" = some 0 := by kernel_rfl
theorem gNoType : (Tryz.prog.globals[1]?).map (·.type) = some 58 := by kernel_rfl
theorem gWhatType : (Tryz.prog.globals[0]?).map (·.type) = some 58 := by kernel_rfl
theorem gTab : Tryz.prog.globalNamed "internal/strconv.uint64pow10" = some 6 := by kernel_rfl
theorem star : "*" ++ "errors.errorString" = "*errors.errorString" := by decide
theorem rowE (u : TypeId) (h : Tryz.prog.typeName? 3 u = some "*errors.errorString") : u = 263 :=
  typeName_ptr_named (nm := "errors.errorString") (by rw [star]; kernel_rfl) (by kernel_rfl) (by decide) u (by rw [star]; exact h)

set_option maxRecDepth 100000 in
/-- What a world that the row's condition describes is to the console. -/
theorem env_of {W : World} (hL : laidMet Tryz.prog Rows.fnDeskLinesRow.laid W) (hsh : W.ShapedOpen Tryz.prog) : ∃ pn pw : Addr, Env W pn pw ∧
    W.var? Tryz.prog "loop.example/g01151/impl.errNo" = some #[.iface 263 (.pointer (some pn))] ∧ W.var? Tryz.prog "loop.example/g01151/impl.errWhat" = some #[.iface 263 (.pointer (some pw))] := by
  obtain ⟨a0, a1, s0, s1, c0, c1, t0, t1, hv0, hv1, _, _, _, _, _, _, hne, hb0, hb1⟩ := laid_sentinels2 hL.tail.tail.tail.tail gNo gNoType gWhat gWhatType Tryz.underlying58 rowE Tryz.underlying263 Tryz.underlying284 rfl rfl Tryz.underlying9 cellsE cellsS
  have ht : Lib.TabIs Tryz.prog W "internal/strconv.uint64pow10" .u64 Lib.pow10Tab := Lib.tabIs_of_head (t := 255) gTab (by kernel_rfl) Tryz.underlying255 Tryz.underlying74 (by kernel_rfl) (by kernel_rfl) hL.tail.tail
  exact ⟨a0, a1, ⟨by simpa using World.var?_cell gNo hv0 0, by simpa using World.var?_cell gWhat hv1 0, hne, ⟨c0, t0, hb0⟩, ⟨c1, t1, hb1⟩,
    cell_of_shapedOpen_int (g := 3) (zero := #[.int .i64 0]) (t := 3) hsh (of_decide_eq_true (by kernel_rfl)) (by kernel_rfl) rfl (by kernel_rfl) (by kernel_rfl) Tryz.underlying3, ht⟩, hv0, hv1⟩

set_option maxRecDepth 100000 in
/-- What the walk gives, for every argument and every world. -/
theorem contract (H : Type) (enc : TypeId × Value → H) (W : World) (base : Nat) (args : Array Value) (ds gs : List (DataW H)) (before : List MemPlace)
    (hval0 : ∀ (j : Nat) t v, Tryz.f7.params[j]? = some t → args[j]? = some v → Value.okWide Tryz.prog W .any base t v)
    (hW : DataW.Whole enc Tryz.prog Tryz.f7.params.toList Rows.fnDeskLinesSpec.vars false W args.toList ds gs before) (hL0 : laidMet Tryz.prog Rows.fnDeskLinesRow.laid W) (hsh : W.ShapedOpen Tryz.prog) :
    Calls Tryz.prog 7 args W fun e W' => ∃ v, e = .returned v ∧ Rows.fnDeskLinesSpec.post enc Tryz.prog Tryz.f7 false true false false W args v W' := by
  have hval : ∀ (j : Nat) t v, Tryz.f7.params[j]? = some t → args[j]? = some v → Value.okWide Tryz.prog W .any base t v := hval0
  have hW' := hW
  obtain ⟨p, q, hA0, hV0, rfl, hfz, hnd⟩ := hW
  have hA : DataW.TrodAll enc Tryz.prog W 0 (fun _ => true) true Tryz.f7.params.toList args.toList ds p := hA0
  have hV : DataW.TrodVars enc Tryz.prog W (fun _ => true) ["loop.example/g01151/impl.errWhat", "loop.example/g01151/impl.errNo"] gs q := hV0
  rw [Tryz.params7] at hA hval
  obtain ⟨v0, vs0, d0, ds0, p0, q0, hargs, rfl, rfl, h0, r0⟩ := trodAll_cons hA
  obtain ⟨v1, vs1, d1, ds1, p1, q1, rfl, rfl, rfl, h1, r1⟩ := trodAll_cons r0
  obtain ⟨rfl, rfl, rfl⟩ := trodAll_nil r1
  obtain rfl : args = #[v0, v1] := by cases args; simp_all
  have hL := hL0
  obtain ⟨pn, pw, hE, hv0, hv1⟩ := env_of hL hsh
  obtain ⟨rfl, rfl⟩ := hV.unique (vars_read2 enc gWhat gWhatType Tryz.underlying58 hv1 trivial gNo gNoType Tryz.underlying58 hv0 trivial _)
  have hgW : 0 < W.heap.size := cell_lt hE.what
  have hgN : 1 < W.heap.size := cell_lt hE.no
  have h0k := h0
  have hlt0 : ∀ x ∈ p0, x.block < W.heap.size := fun x hx => by have := hW'.lt x (by simp [hx]); simpa using this
  obtain ⟨xs0, hs0⟩ := sb_open (hval 0 43 v0 rfl rfl) h0 hlt0
  have h1k := h1
  have hlt1 : ∀ x ∈ p1, x.block < W.heap.size := fun x hx => by have := hW'.lt x (by simp [hx]); simpa using this
  obtain ⟨xs1, hs1⟩ := sb_open (hval 1 43 v1 rfl rfl) h1 hlt1
  clear hA0 hval0
  refine (law_DeskLines (W := W) v0 xs0 hs0 v1 xs1 hs1 pn pw hE).mono fun e W' ⟨he, hg⟩ => ?_
  subst he
  exact ⟨_, rfl, _, _, _, [], _, _, hW', (trodAll_cons_mk (shut_bool Tryz.underlying4 _) trodAll_mk0), (trodAll_cons_mk (Below.trod laidOut (by kernel_rfl) (of_decide_eq_true (by kernel_rfl)) h0k hg hlt0) (trodAll_cons_mk (Below.trod laidOut (by kernel_rfl) (of_decide_eq_true (by kernel_rfl)) h1k hg hlt1) trodAll_mk0)), vars_read2 enc gWhat gWhatType Tryz.underlying58 (var?_below hg gWhat hgW hv1) trivial gNo gNoType Tryz.underlying58 (var?_below hg gNo hgN hv0) trivial _, hg.frame _, fun h => by cases h⟩

/-- The cells of the tables. -/
def cellOf : DataW Unit → List Value
  | .lit (.int k z) => [.int k z]
  | _ => []
def rowOf : DataW Unit → List Value
  | .agg es => es.flatMap cellOf
  | e => cellOf e
def tabOf : DataW Unit → Array Value
  | .agg es => (es.flatMap rowOf).toArray
  | _ => #[]
def cellsFirst : Array Value := (Go.Pinned.utf8FirstZ.map fun (n : Nat) => Value.int .u8 (n : Int)).toArray
def fillBlock (cs : Array Value) : Obj → Obj
  | .cells _ t frozen => .cells cs t frozen
  | o => o
noncomputable def low : Nat := (World.holding Tryz.prog default ⟨#[], #[], []⟩).heap.size
/-- A world for the witness: the settled one, the tables and the two errors holding what is laid. -/
noncomputable def laidWorld (os : Go.Os) : World :=
  let w0 := World.holding Tryz.prog os ⟨#[.cells #[.string ⟨#[110, 111]⟩] 284, .cells #[.string ⟨#[119, 104, 97, 116]⟩] 284], #[], []⟩
  { w0 with heap := ((((((w0.heap.modify 7 (fillBlock (tabOf Rows.laid_math_bits_deBruijn32tab))).modify 8 (fillBlock (tabOf Rows.laid_math_bits_deBruijn64tab))).modify 6 (fillBlock (tabOf Rows.laid_internal_strconv_uint64pow10))).modify 5 (fillBlock (tabOf Rows.laid_unicode_utf8_acceptRanges))).modify 4 (fillBlock cellsFirst)).modify 1 (fillBlock #[.iface 263 (.pointer (some ⟨low, 0, none⟩))])).modify 0 (fillBlock #[.iface 263 (.pointer (some ⟨low + 1, 0, none⟩))]) }
theorem laid_met (os : Go.Os) : laidMet Tryz.prog Rows.fnDeskLinesRow.laid ((laidWorld os).forCall (fun _ _ => 0) ⟨#[], #[.slice none 0 0, .slice none 0 0], []⟩).memory :=
  laidMet_of_run' 8 (by kernel_rfl) (by kernel_rfl)

set_option maxRecDepth 100000 in
theorem lifted (os : Go.Os) (started : os.Started) (H : Type) (enc : TypeId × Value → H) (F : Stop.Interp) :
    ReturnsInHanded {} Tryz.checked os 7 .any ((OpenSpec.ofChange Rows.fnDeskLinesSpec).preRow enc Tryz.prog Tryz.f7 Rows.fnDeskLinesRow.domain false Rows.fnDeskLinesRow.laid) (((OpenSpec.ofChange Rows.fnDeskLinesSpec).at F).post enc Tryz.prog Tryz.f7 false true false false) := by
  refine returnsInHanded_of_row (C := Tryz.checked) (s := OpenSpec.ofChange Rows.fnDeskLinesSpec) own started (by kernel_rfl) Tryz.func7
    (witness_row_at (enc := enc) (C := Tryz.checked) false (laidWorld os) #[.slice none 0 0, .slice none 0 0] rfl (by kernel_rfl) (by kernel_rfl) (by kernel_rfl)
      (OpenSpec.preRow_of_B rfl 8 (by kernel_rfl) (by kernel_rfl) (laid_met os))) ?_
  intro W base args ds gs before hval hW _ _ _ hL hsh _
  exact contract H enc W base args ds gs before hval hW hL hsh

theorem closed : joinedFacts Tryz.pinned.checked.prog 7 Tryz.f7 (OpenSpec.ofChange Rows.fnDeskLinesSpec).bare Rows.fnDeskLinesRow = true := by
  unfold joinedFacts
  rw [whole.laid, whole.rowed, whole.plain, whole.heard, whole.enter, whole.lifts, whole.made]
  kernel_rfl

theorem said : Rows.FnDeskLinesSaid :=
  OpenClaim.holds_of_cond 7 Tryz.f7 rfl rfl rfl rfl rfl rfl rfl ⟨rfl, rfl, rfl, rfl, rfl⟩ rfl rfl rfl rfl rfl (by kernel_rfl) Tryz.func7 closed
    (of_decide_eq_true (by kernel_rfl)) (by unfold Func.isWrapper; first | (rw [if_pos (by decide +kernel)]; kernel_rfl) | (rw [if_neg (by decide +kernel)]; exact ⟨rfl, rfl⟩))
    (fun os started H enc _ F => by rw [OpenClaim.pre_eq_preRow]; exact lifted os started H enc F)

/-- No parameter wants a stand-in. -/
theorem plain (f : FuncId) (fn : Func) (hf : Tryz.pinned.checked.prog.funcNamed "loop.example/g01151/laws.FnDeskLines" = some f) (hfn : Tryz.pinned.checked.prog.funcs[f]? = some fn) :
    true = Tryz.pinned.checked.prog.looks [] ∧ ∀ (j : Nat) t, fn.params[j]? = some t → Tryz.pinned.checked.prog.wantsStandIn t = false := by
  obtain rfl : f = 7 := Option.some.inj ((show Tryz.prog.funcNamed "loop.example/g01151/laws.FnDeskLines" = some 7 by kernel_rfl).symm.trans hf) |>.symm
  obtain rfl : fn = Tryz.f7 := (Option.some.inj (Tryz.func7.symm.trans hfn)).symm
  refine ⟨by kernel_rfl, fun j t ht => ?_⟩
  rw [Tryz.params7] at ht
  obtain rfl : t = 43 := by simpa using Array.mem_of_getElem? ht
  all_goals kernel_rfl

/-- THE CARD. -/
theorem card : Rows.FnDeskLinesCardSaid :=
  Claim7.holds_tied_plain_at .later [] _ _ _ _ said (fun _ h => by cases h) (by kernel_rfl) (fun _ h => by cases h) fnDeskLines_row_tie rfl ⟨rfl, rfl⟩ (by kernel_rfl) rfl plain (by kernel_rfl)
#print axioms card
end Go.Proofs.YtlbjeiaihenjkaaGreatDoor.fnDeskLines
