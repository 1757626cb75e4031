/-
  The least number with a digit sum, the program's.
-/
import Derived.Test.YtdlohdjejmpmcaaWC
import Derived.Test.YtdlohdjejmpmcaaTM
import Derived.Test.YtdlohdjejmpmcaaTN
namespace Go.Proofs.Ytdlohdjejmpmcaa
open Go.RowKit
set_option linter.unusedVariables false
set_option linter.unusedSimpArgs false
set_option maxRecDepth 100000

theorem Rd.litw6 (w : World) (g n : Nat) (cs : Array Value) (ys : List Int) (hg : w.heap.size = g) (hc : cs = (ys.map (Value.int .i64)).toArray) (hn : ys.length = n) (hm : n ≤ 100) : Rd (w.alloc (.cells cs 3)) 0 (.slice (some ⟨g, 0, none⟩) n n) ys := by
  subst hc
  subst hg
  subst hn
  have := World.ownsRow_lit (e := 3) (size := 1) (base := 0) w (ys.map (Value.int .i64)).toArray ys.length (Nat.zero_le _) (by unfold maxLen; omega) (by simp)
  unfold Rd
  simpa using this
theorem bel_alloc6 {w x : World} (h : Below w.heap.size w x) (o : Obj) : Below w.heap.size w (x.alloc o) := Below.step h h.size (al_below x o)
theorem bel_step6 {w x y : World} (h : Below w.heap.size w x) (k : Below x.heap.size x y) : Below w.heap.size w y := Below.step h h.size k
theorem rd_low6 {w x y : World} {u : Value} {xs : List Int} (h : Rd y x.heap.size u xs) (hb : Below w.heap.size w x) : Rd y w.heap.size u xs := h.mono hb.size

theorem concat2_any6 (w : World) (g : Nat) (u0 u1 : Value) (Y0 Y1 : List Int) (hg : w.heap.size = g) (r0 : Rd w 0 u0 Y0) (r1 : Rd w 0 u1 Y1) (hp : 1 ≤ Y0.length) (h0 : Y0.length ≤ 100) (h1 : Y1.length ≤ 100) :
    Calls Try.prog 111 #[.slice (some ⟨g, 0, none⟩) 2 2] (w.alloc (.cells #[u0, u1] 26)) fun e w' => ∃ v, e = .returned v ∧ Rd w' w.heap.size v (Y0 ++ Y1) ∧ Below (w.alloc (.cells #[u0, u1] 26)).heap.size (w.alloc (.cells #[u0, u1] 26)) w' := by
  subst hg
  refine (concatI_any w.heap.size 2 2 (fun i => match i with | 0 => u0 | _ => u1) (fun i => match i with | 0 => Y0 | _ => Y1) _ (fun i hi => ?_) (fun i hi => ?_) ?_ (fun i hi => ?_) (by omega)).mono ?_
  · match i, hi with
    | 0, _ => simp [go_sem]
    | 1, _ => simp [go_sem]
  · match i, hi with
    | 0, _ => exact r0.alloc _
    | 1, _ => exact r1.alloc _
  · simp [jnP]; omega
  · match i, hi with
    | 0, _ => simp [jnP]
    | 1, _ => simp [jnP]; omega
    | 2, _ => simp [jnP]; omega
  · rintro e w' ⟨v, rfl, hr, hb⟩
    have hj : jnP (fun i => match i with | 0 => Y0 | _ => Y1) 2 = Y0 ++ Y1 := by simp [jnP]
    rw [hj] at hr
    exact ⟨v, rfl, hr.mono (by simp), hb⟩

theorem lspS_mk {b s r g : Int} {Q : Nat} (hg : b - 1 = g) (hr : s % g = r) (hq : s / g = (Q : Int)) : lspS b s = numF b ([r] ++ List.replicate Q g) 0 := by
  unfold lspS
  rw [hg, hr, hq, Int.toNat_natCast]; rfl

set_option maxHeartbeats 16000000 in
theorem leastWithDigitSum_any (s b : Int) (w : World) (h0 : 0 < s) (h1 : s ≤ 100) (hq3 : s / (b - 1) ≤ 3) (hb : 2 ≤ b) (hb' : b ≤ 16) :
    Calls Try.prog 108 #[.int .i64 b, .int .i64 s] w fun e w' => e = .returned (optRes (lspS b s)) ∧ Below w.heap.size w w' := by
  obtain ⟨g, hg⟩ : ∃ g, b - 1 = g := ⟨_, rfl⟩
  obtain ⟨r, hr⟩ : ∃ r, s % g = r := ⟨_, rfl⟩
  rw [hg] at hq3
  have hq0 : 0 ≤ s / g := Int.ediv_nonneg (by omega) (by omega)
  obtain ⟨Q, hQ⟩ : ∃ Q : Nat, s / g = (Q : Int) := ⟨(s / g).toNat, by omega⟩
  have HL := Lib.hid (lspS_mk hg hr hQ)
  have r0 : 0 ≤ r := by rw [← hr]; exact Int.emod_nonneg _ (by omega)
  have r1 : r < g := by rw [← hr]; exact Int.emod_lt_of_pos _ (by omega)
  have g1 : 1 ≤ g := by omega
  have g2 : g ≤ 15 := by omega
  have HA := Lib.hid (show ∀ x ∈ [r] ++ List.replicate Q g, 0 ≤ x ∧ x ≤ 1000000 by
    intro x hx
    rw [List.mem_append] at hx
    rcases hx with hx | hx
    · simp at hx; omega
    · have := (List.mem_replicate.1 hx).2; omega)
  have hQ3 : Q ≤ 3 := by omega
  have ht1 : Int.tmod s g = r := by rw [Int.tmod_eq_emod_of_nonneg (by omega)]; exact hr
  have ht2 : Int.tdiv s g = (Q : Int) := by rw [Int.tdiv_eq_ediv_of_nonneg (by omega)]; exact hQ
  have hg0 : (g == 0) = false := beq_no (by omega)
  have hgz : ¬ g = 0 := by omega
  have hwQ : IntKind.i64.wrap (Q : Int) = (Q : Int) := IntWalk.i64_in _ (by omega)
  clear hr hQ hq3 hq0
  rw [HL.out]
  go_enter Try.func108, Try.ntmps108
  go_wp2
  obtain ⟨w0, _⟩ : ∃ w0 : World, True := ⟨w, trivial⟩
  have KR := Lib.hid (Below.refl w0.heap.size w0)
  go_region_held3 (fun w' => True) (trivial) (first
    | (go_at_call 112; go_loud (refine (repeat_any _ _ Q 0 g _ ?rd (by omega)).mono ?_; (case rd => (repeat (first | ((with_reducible refine Rd.litw6 _ _ 1 _ [g] ?_ ?_ ?_ ?_); (first | rfl | simp | omega); rfl; rfl; decide) | (with_reducible refine Rd.drew ?_) | (with_reducible refine Rd.alloc ?_ _)))); rintro e wr ⟨u, rfl, hr, hb⟩; have RR := Lib.hid hr; have KR := Lib.hid hb; obtain ⟨ar, cr, hu⟩ := hr.sl.len; rw [List.length_replicate] at hu; subst hu; clear hr hb))
    | (go_at_call 111; go_loud (refine (concat2_any6 _ _ _ _ [r] (List.replicate Q g) (by simp) ?r0 ?r1 (by simp) (by simp) (by simp; omega)).mono ?_; (case r0 => (repeat (first | ((with_reducible refine Rd.litw6 _ _ 1 _ [r] ?_ ?_ ?_ ?_); (first | rfl | simp | omega); rfl; rfl; decide) | (with_reducible refine Rd.drew ?_) | (with_reducible refine Rd.alloc ?_ _) | (with_reducible refine Rd.keep ?_ KR.out)))); (case r1 => (repeat (first | (with_reducible exact RR.out.mono (Nat.zero_le _)) | (with_reducible refine Rd.drew ?_) | (with_reducible refine Rd.alloc ?_ _) | (with_reducible refine Rd.keep ?_ KR.out)))); rintro e wf ⟨v, rfl, hr, hb⟩; have RC := Lib.hid hr; have KC := Lib.hid hb; clear hr hb))
    | (go_at_call 102; go_loud (refine (number_any _ _ _ _ _ RC.out HA.out hb hb' (by simp; omega)).mono ?_; rintro e w3 ⟨rfl, rfl⟩)))
  all_goals
    go_wp2
    go_ret2
    refine ⟨rfl, ?_⟩
    refine bel_step6 ?_ KC.out
    repeat (first | (with_reducible exact Below.refl _ _) | (with_reducible refine Below.drew ?_) | (with_reducible refine bel_alloc6 ?_ _) | (with_reducible refine bel_step6 ?_ KR.out))

end Go.Proofs.Ytdlohdjejmpmcaa
