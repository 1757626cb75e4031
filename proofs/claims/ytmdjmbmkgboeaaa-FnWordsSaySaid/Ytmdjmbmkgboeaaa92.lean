/-
  The list that a told stretch stands for; a region in a round of a loop over an iterator.
-/
import Derived.Test.Ytmdjmbmkgboeaaa91
import Derived.Test.Ytmdjmbmkgboeaaa8N
import Derived.RangeFuncCalls
import Derived.OwnWalkIn
namespace Go.Proofs.Ytmdjmbmkgboeaaa
open Go.RowKit
set_option linter.unusedVariables false
set_option linter.unusedSimpArgs false
set_option maxRecDepth 100000

theorem list_any (t : Nat) (v : Int) (w : World) (ht : t ≤ 40) :
    Calls Try.prog 60 #[.agg #[.int .i64 (t : Int), .int .i64 v]] w fun e w' => ∃ u, e = .returned u ∧ Rd w' w.heap.size u (List.replicate t v) ∧ Below w.heap.size w w' := by
  have HA0 := Lib.hid ((Below.refl w.heap.size w).alloc (Nat.le_refl _) (.cells #[.int .i64 (t : Int), .int .i64 v] 66))
  have HA1 := Lib.hid (HA0.out.alloc HA0.out.size (.cells #[.int .i64 v] 3))
  have HRP := Lib.hid (show Calls Try.prog 97 #[.slice (some ⟨w.heap.size + 1, 0, none⟩) 1 1, .int .i64 (t : Int)] ((w.alloc (.cells #[.int .i64 (t : Int), .int .i64 v] 66)).alloc (.cells #[.int .i64 v] 3)) fun e w' => ∃ u, e = .returned u ∧ Rd w' ((w.alloc (.cells #[.int .i64 (t : Int), .int .i64 v] 66)).alloc (.cells #[.int .i64 v] 3)).heap.size u (List.replicate t v) ∧ Below ((w.alloc (.cells #[.int .i64 (t : Int), .int .i64 v] 66)).alloc (.cells #[.int .i64 v] 3)).heap.size ((w.alloc (.cells #[.int .i64 (t : Int), .int .i64 v] 66)).alloc (.cells #[.int .i64 v] 3)) w' from
    repeat_any (w.heap.size + 1) 1 t 0 v _ (by have h := Rd.litB (w.alloc (.cells #[.int .i64 (t : Int), .int .i64 v] 66)) 0 v (Nat.zero_le _); rw [World.size_alloc] at h; exact h) ht)
  go_enter Try.func60, Try.ntmps60
  go_wp2_with (go_at_call 97; with_reducible (refine HRP.out.mono ?_); rintro e w3 ⟨u, rfl, hr3, hb3⟩; have HR3 := Lib.hid hr3; have HB3 := Lib.hid (Below.step HA1.out HA1.out.size hb3); clear hr3 hb3)
  go_ret
  exact ⟨_, rfl, HR3.out.mono HA1.out.size, HB3.out⟩

/-- An operation that is no defer statement, in a round: as everywhere. -/
theorem oper_round {P : Program} {o : Oper} {a : Act} {w : World} {K : Act → World → Prop} {Q : Exit → Act → World → Prop} (l n : Nat) (hd : ∀ c, o.op ≠ .defer c) (h : o.wp P a w K Q) : o.wpIn (Fence.wide.inRound l) n P a w K Q := by
  unfold Oper.wp at h
  unfold Oper.wpIn
  refine ⟨fun _ _ => trivial, ?_⟩
  rw [Oper.semAt_plain _ _ _ hd]
  generalize (execOp a.eval o).run P w = r at h
  cases r with
  | ok x w' =>
    cases x with
    | value v => exact h
    | skip => exact h
    | defer d => exact h
    | enter f args => exact ⟨fun hn => by simp [Fence.wide] at hn, CallsIn.inRound l (callsIn_wide.2 h)⟩
    | row r args => exact ⟨fun hn => by simp [Fence.wide] at hn, fun c cs _ => let ⟨v, w', r, s⟩ := h c cs; ⟨v, w', r, stepsIn_wide.2 s⟩⟩
    | _ => exact h.elim
  | halt x w' => cases x <;> exact h

theorem any_round {P : Program} {ops : Array Oper} {Q : Exit → Act → World → Prop} {md : Region.Mode} (l n : Nat) (hd : ∀ (i : Nat) (o : Oper) (c : Call), ops[i]? = some o → o.op ≠ .defer c) (hq : ¬ LetsOut Q) :
    ∀ (fuel : Nat) (listed : Array Bool) (a : Act) (w : World), wpAny P md ops Q fuel listed a w → wpAnyIn (Fence.wide.inRound l) n P md ops Q fuel listed a w
  | 0, _, _, _, h => h
  | fuel + 1, listed, a, w, h => by
    refine ⟨h.1, fun i hi => ?_⟩
    have h1 := h.2 i hi
    unfold wpOp at h1
    unfold wpOpIn
    cases ho : ops[i]? with
    | none =>
      simp only [ho] at h1
      exact any_round l n hd hq fuel _ _ _ h1
    | some o =>
      simp only [ho] at h1
      by_cases hw : Region.wanted o (yielded ops a.tmps) = true
      · simp only [hw, if_true] at h1 ⊢
        rcases h1 with h1 | ⟨_, h1⟩
        · exact Oper.wpIn_mono (fun a w hh => any_round l n hd hq fuel _ _ _ hh) (oper_round l n (fun c => hd i o c ho) h1)
        · exact absurd h1 hq
      · simp only [hw] at h1 ⊢
        exact ⟨fun _ _ => trivial, any_round l n hd hq fuel _ _ _ h1⟩

def noDefer : Op → Bool
  | .defer _ => false
  | _ => true
theorem noDefer_all {ops : Array Oper} (h : ops.all (fun o => noDefer o.op) = true) (i : Nat) (o : Oper) (c : Call) (ho : ops[i]? = some o) : o.op ≠ .defer c := fun e => by
  have h2 := (Array.all_eq_true.1 h) i (Array.getElem?_eq_some_iff.1 ho).1
  rw [(Array.getElem?_eq_some_iff.1 ho).2, e] at h2
  cases h2

theorem region_round {P : Program} {ops : Array Oper} {Q : Exit → Act → World → Prop} {id : Nat} {a : Act} {w : World} (l n : Nat) (hd : ops.all (fun o => noDefer o.op) = true) (hq : ¬ LetsOut Q) (hm : P.follows .mixedOrders = true)
    (h : wpAny P .any ops Q ops.size (Array.replicate ops.size false) a w.drew) : (Code.region id ops true).wpIn (Fence.wide.inRound l) n P Q a w :=
  wpIn_region_any hm (any_round l n (noDefer_all hd) hq _ _ _ _ h)

end Go.Proofs.Ytmdjmbmkgboeaaa
