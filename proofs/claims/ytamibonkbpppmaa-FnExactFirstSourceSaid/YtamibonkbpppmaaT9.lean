/-
  NeverWord: the program and the model.
-/
import Derived.Test.YtamibonkbpppmaaTF
import Derived.Test.YtamibonkbpppmaaTM
import Derived.Test.YtamibonkbpppmaaTN
namespace Go.Proofs.Ytamibonkbpppmaa
open Go.RowKit
set_option linter.unusedVariables false
set_option linter.unusedSimpArgs false
set_option maxRecDepth 100000

/-- The digits 1, 0, then k times 1, then 0, 1, then k times 0. -/
def nvW (k : Nat) : List Int := [1, 0] ++ List.replicate k 1 ++ [0, 1] ++ List.replicate k 0
def okNv (k : Int) : Bool := decide (2 ≤ k ∧ k ≤ 17)
abbrev OK_NeverWord (k : Int) : Bool := okNv k
def LF_NeverWord (k : Int) : List Int := if okNv k = true then nvW k.toNat else []
theorem LF_NeverWord_len (k : Int) : (LF_NeverWord k).length ≤ 2000000 := by
  unfold LF_NeverWord
  split
  · rename_i h
    have := of_decide_eq_true h
    unfold nvW
    simp; omega
  · simp

theorem Rd.lits (w : World) (g n : Nat) (ys : List Int) (hg : w.heap.size = g) (hn : ys.length = n) (hm : n ≤ 100) : Rd (w.alloc (.cells (ys.map (Value.int .i64)).toArray 3)) 0 (.slice (some ⟨g, 0, none⟩) n n) ys := by
  subst hg
  subst hn
  have := World.ownsRow_lit (e := 3) (size := 1) (base := 0) w (ys.map (Value.int .i64)).toArray ys.length (Nat.zero_le _) (by unfold maxLen; omega) (by simp)
  unfold Rd
  simpa using this
theorem Rd.litw (w : World) (g n : Nat) (cs : Array Value) (ys : List Int) (hg : w.heap.size = g) (hc : cs = (ys.map (Value.int .i64)).toArray) (hn : ys.length = n) (hm : n ≤ 100) : Rd (w.alloc (.cells cs 3)) 0 (.slice (some ⟨g, 0, none⟩) n n) ys := by
  subst hc
  exact Rd.lits w g n ys hg hn hm
theorem bel_alloc {w x : World} (h : Below w.heap.size w x) (o : Obj) : Below w.heap.size w (x.alloc o) := Below.step h h.size (alloc_below x o)
theorem bel_step {w x y : World} (h : Below w.heap.size w x) (k : Below x.heap.size x y) : Below w.heap.size w y := Below.step h h.size k
theorem rd_low {w x y : World} {u : Value} {xs : List Int} (h : Rd y x.heap.size u xs) (hb : Below w.heap.size w x) : Rd y w.heap.size u xs := h.mono hb.size

theorem concat4_any (w : World) (g : Nat) (u0 u1 u2 u3 : Value) (Y0 Y1 Y2 Y3 : List Int) (hg : w.heap.size = g) (r0 : Rd w 0 u0 Y0) (r1 : Rd w 0 u1 Y1) (r2 : Rd w 0 u2 Y2) (r3 : Rd w 0 u3 Y3) (hp : 1 ≤ Y0.length) (h0 : Y0.length ≤ 100) (h1 : Y1.length ≤ 100) (h2 : Y2.length ≤ 100) (h3 : Y3.length ≤ 100) :
    Calls Try.prog 76 #[.slice (some ⟨g, 0, none⟩) 4 4] (w.alloc (.cells #[u0, u1, u2, u3] 22)) fun e w' => ∃ v, e = .returned v ∧ Rd w' w.heap.size v (Y0 ++ Y1 ++ Y2 ++ Y3) ∧ Below (w.alloc (.cells #[u0, u1, u2, u3] 22)).heap.size (w.alloc (.cells #[u0, u1, u2, u3] 22)) w' := by
  subst hg
  refine (concatI_any w.heap.size 4 4 (fun i => match i with | 0 => u0 | 1 => u1 | 2 => u2 | _ => u3) (fun i => match i with | 0 => Y0 | 1 => Y1 | 2 => Y2 | _ => Y3) _ (fun i hi => ?_) (fun i hi => ?_) ?_ (fun i hi => ?_) (by omega)).mono ?_
  · match i, hi with
    | 0, _ => simp [go_sem]
    | 1, _ => simp [go_sem]
    | 2, _ => simp [go_sem]
    | 3, _ => simp [go_sem]
  · match i, hi with
    | 0, _ => exact r0.alloc _
    | 1, _ => exact r1.alloc _
    | 2, _ => exact r2.alloc _
    | 3, _ => exact r3.alloc _
  · simp [jnP]; omega
  · match i, hi with
    | 0, _ => simp [jnP]
    | 1, _ => simp [jnP]; omega
    | 2, _ => simp [jnP]; omega
    | 3, _ => simp [jnP]; omega
    | 4, _ => simp [jnP]; omega
  · rintro e w' ⟨v, rfl, hr, hb⟩
    have hj : jnP (fun i => match i with | 0 => Y0 | 1 => Y1 | 2 => Y2 | _ => Y3) 4 = Y0 ++ Y1 ++ Y2 ++ Y3 := by simp [jnP]
    rw [hj] at hr
    exact ⟨v, rfl, hr.mono (by simp), hb⟩

end Go.Proofs.Ytamibonkbpppmaa
