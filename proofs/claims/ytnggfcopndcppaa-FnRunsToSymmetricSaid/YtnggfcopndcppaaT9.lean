/-
  NeverWord: the program and the model.
-/
import Derived.Test.YtnggfcopndcppaaTF
import Derived.Test.YtnggfcopndcppaaTM
import Derived.Test.YtnggfcopndcppaaTN
namespace Go.Proofs.Ytnggfcopndcppaa
open Go.RowKit
set_option linter.unusedVariables false
set_option linter.unusedSimpArgs false
set_option maxRecDepth 100000

/-- The digits 1, 0, then k times 1, then 0, 1, then k times 0. -/
def nvW (k : Nat) : List Int := [1, 0] ++ List.replicate k 1 ++ [0, 1] ++ List.replicate k 0
def okNv (k : Int) : Bool := decide (2 ≤ k ∧ k ≤ 17)
abbrev OK_NeverWord (k : Int) : Bool := okNv k
def LF_NeverWord (k : Int) : List Int := if okNv k = true then nvW k.toNat else []
theorem LF_NeverWord_len (k : Int) : (LF_NeverWord k).length ≤ 2000000 := by
  unfold LF_NeverWord
  split
  · rename_i h
    have := of_decide_eq_true h
    unfold nvW
    simp; omega
  · simp

theorem Rd.lits (w : World) (g n : Nat) (ys : List Int) (hg : w.heap.size = g) (hn : ys.length = n) (hm : n ≤ 100) : Rd (w.alloc (.cells (ys.map (Value.int .i64)).toArray 3)) 0 (.slice (some ⟨g, 0, none⟩) n n) ys := by
  subst hg
  subst hn
  have := World.ownsRow_lit (e := 3) (size := 1) (base := 0) w (ys.map (Value.int .i64)).toArray ys.length (Nat.zero_le _) (by unfold maxLen; omega) (by simp)
  unfold Rd
  simpa using this
theorem Rd.litw (w : World) (g n : Nat) (cs : Array Value) (ys : List Int) (hg : w.heap.size = g) (hc : cs = (ys.map (Value.int .i64)).toArray) (hn : ys.length = n) (hm : n ≤ 100) : Rd (w.alloc (.cells cs 3)) 0 (.slice (some ⟨g, 0, none⟩) n n) ys := by
  subst hc
  exact Rd.lits w g n ys hg hn hm
theorem bel_alloc {w x : World} (h : Below w.heap.size w x) (o : Obj) : Below w.heap.size w (x.alloc o) := Below.step h h.size (alloc_below x o)
theorem bel_step {w x y : World} (h : Below w.heap.size w x) (k : Below x.heap.size x y) : Below w.heap.size w y := Below.step h h.size k
theorem rd_low {w x y : World} {u : Value} {xs : List Int} (h : Rd y x.heap.size u xs) (hb : Below w.heap.size w x) : Rd y w.heap.size u xs := h.mono hb.size

theorem concat4_any (w : World) (g : Nat) (u0 u1 u2 u3 : Value) (Y0 Y1 Y2 Y3 : List Int) (hg : w.heap.size = g) (r0 : Rd w 0 u0 Y0) (r1 : Rd w 0 u1 Y1) (r2 : Rd w 0 u2 Y2) (r3 : Rd w 0 u3 Y3) (hp : 1 ≤ Y0.length) (h0 : Y0.length ≤ 100) (h1 : Y1.length ≤ 100) (h2 : Y2.length ≤ 100) (h3 : Y3.length ≤ 100) :
    Calls Try.prog 80 #[.slice (some ⟨g, 0, none⟩) 4 4] (w.alloc (.cells #[u0, u1, u2, u3] 24)) fun e w' => ∃ v, e = .returned v ∧ Rd w' w.heap.size v (Y0 ++ Y1 ++ Y2 ++ Y3) ∧ Below (w.alloc (.cells #[u0, u1, u2, u3] 24)).heap.size (w.alloc (.cells #[u0, u1, u2, u3] 24)) w' := by
  subst hg
  refine (concatI_any w.heap.size 4 4 (fun i => match i with | 0 => u0 | 1 => u1 | 2 => u2 | _ => u3) (fun i => match i with | 0 => Y0 | 1 => Y1 | 2 => Y2 | _ => Y3) _ (fun i hi => ?_) (fun i hi => ?_) ?_ (fun i hi => ?_) (by omega)).mono ?_
  · match i, hi with
    | 0, _ => simp [go_sem]
    | 1, _ => simp [go_sem]
    | 2, _ => simp [go_sem]
    | 3, _ => simp [go_sem]
  · match i, hi with
    | 0, _ => exact r0.alloc _
    | 1, _ => exact r1.alloc _
    | 2, _ => exact r2.alloc _
    | 3, _ => exact r3.alloc _
  · simp [jnP]; omega
  · match i, hi with
    | 0, _ => simp [jnP]
    | 1, _ => simp [jnP]; omega
    | 2, _ => simp [jnP]; omega
    | 3, _ => simp [jnP]; omega
    | 4, _ => simp [jnP]; omega
  · rintro e w' ⟨v, rfl, hr, hb⟩
    have hj : jnP (fun i => match i with | 0 => Y0 | 1 => Y1 | 2 => Y2 | _ => Y3) 4 = Y0 ++ Y1 ++ Y2 ++ Y3 := by simp [jnP]
    rw [hj] at hr
    exact ⟨v, rfl, hr.mono (by simp), hb⟩

set_option maxHeartbeats 16000000 in
theorem impl_NeverWord (k : Int) (w : World) :
    Calls Try.prog 34 #[.int .i64 k] w fun e w' => ∃ u, e = .returned (.tuple #[u, .bool (OK_NeverWord k)]) ∧ Rd w' w.heap.size u (LF_NeverWord k) ∧ Below w.heap.size w w' := by
  by_cases h : 2 ≤ k ∧ k ≤ 17
  · obtain ⟨K, rfl⟩ : ∃ K : Nat, k = (K : Int) := ⟨k.toNat, by omega⟩
    have HO := Lib.hid (show okNv (K : Int) = true from decide_eq_true h)
    have HL := Lib.hid (show LF_NeverWord (K : Int) = nvW K by unfold LF_NeverWord; rw [HO.out, if_pos rfl, Int.toNat_natCast])
    rw [HL.out]
    show Calls _ _ _ _ fun e w' => ∃ u, e = .returned (.tuple #[u, .bool (okNv (K : Int))]) ∧ _
    rw [HO.out]
    obtain ⟨h1, h2⟩ := h
    have hK1 : 2 ≤ K := by omega
    have hK2 : K ≤ 17 := by omega
    go_enter Try.func34, Try.ntmps34
    go_wp2
    obtain ⟨w0, _⟩ : ∃ w0 : World, True := ⟨w, trivial⟩
    have KM := Lib.hid (Below.refl w0.heap.size w0)
    have KR := Lib.hid (Below.refl w0.heap.size w0)
    go_region_held3 (fun w' => True) (trivial) (first
      | (refine upon_mkI K (by omega) ?_; intro gm wm hge hlt hr hbx; have RM := Lib.hid hr; have KM := Lib.hid hbx; clear hr hbx hge hlt)
      | (go_at_call 81; go_loud (refine (repeat_any _ _ K 0 1 _ ?rd (by omega)).mono ?_; (case rd => (repeat (first | ((with_reducible refine Rd.litw _ _ 1 _ [1] ?_ ?_ ?_ ?_); (first | rfl | simp | omega); rfl; rfl; decide) | (with_reducible refine Rd.drew ?_) | (with_reducible refine Rd.alloc ?_ _) | (with_reducible refine Rd.keep ?_ KM.out)))); rintro e wr ⟨u, rfl, hr, hb⟩; have RR := Lib.hid hr; have KR := Lib.hid hb; rcases hr.cases with ⟨_, hx⟩ | ⟨gr, cr, hu, _⟩; (exfalso; have h9 := congrArg List.length hx; simp at h9; omega); rw [List.length_replicate] at hu; subst hu; clear hr hb))
      | (go_at_call 80; go_loud (refine (concat4_any _ _ _ _ _ _ [1, 0] (List.replicate K 1) [0, 1] (List.replicate K 0) (by simp) ?r0 ?r1 ?r2 ?r3 (by simp) (by simp) (by simp; omega) (by simp) (by simp; omega)).mono ?_; (case r0 => (repeat (first | ((with_reducible refine Rd.litw _ _ 2 _ [1, 0] ?_ ?_ ?_ ?_); (first | rfl | simp | omega); rfl; rfl; decide) | (with_reducible refine Rd.drew ?_) | (with_reducible refine Rd.alloc ?_ _) | (with_reducible refine Rd.keep ?_ KM.out) | (with_reducible refine Rd.keep ?_ KR.out)))); (case r1 => (repeat (first | (with_reducible exact RR.out.mono (Nat.zero_le _)) | (with_reducible refine Rd.drew ?_) | (with_reducible refine Rd.alloc ?_ _) | (with_reducible refine Rd.keep ?_ KM.out) | (with_reducible refine Rd.keep ?_ KR.out)))); (case r2 => (repeat (first | ((with_reducible refine Rd.litw _ _ 2 _ [0, 1] ?_ ?_ ?_ ?_); (first | rfl | simp | omega); rfl; rfl; decide) | (with_reducible refine Rd.drew ?_) | (with_reducible refine Rd.alloc ?_ _) | (with_reducible refine Rd.keep ?_ KM.out) | (with_reducible refine Rd.keep ?_ KR.out)))); (case r3 => (repeat (first | (with_reducible exact RM.out.mono (Nat.zero_le _)) | (with_reducible refine Rd.drew ?_) | (with_reducible refine Rd.alloc ?_ _) | (with_reducible refine Rd.keep ?_ KM.out) | (with_reducible refine Rd.keep ?_ KR.out)))); rintro e wf ⟨v, rfl, hr, hb⟩; have RC := Lib.hid hr; have KC := Lib.hid hb; clear hr hb)))
    all_goals
      go_wp2
      go_ret2
      refine ⟨_, rfl, ?_, ?_⟩
      · refine rd_low RC.out ?_
        repeat (first | (with_reducible exact Below.refl _ _) | (with_reducible refine Below.drew ?_) | (with_reducible refine bel_alloc ?_ _) | (with_reducible refine bel_step ?_ KM.out) | (with_reducible refine bel_step ?_ KR.out))
      · refine bel_step ?_ KC.out
        repeat (first | (with_reducible exact Below.refl _ _) | (with_reducible refine Below.drew ?_) | (with_reducible refine bel_alloc ?_ _) | (with_reducible refine bel_step ?_ KM.out) | (with_reducible refine bel_step ?_ KR.out))
  · have HO := Lib.hid (show okNv k = false from decide_eq_false h)
    have HL := Lib.hid (show LF_NeverWord k = [] by unfold LF_NeverWord; rw [HO.out, if_neg (by simp)])
    rw [HL.out]
    show Calls _ _ _ _ fun e w' => ∃ u, e = .returned (.tuple #[u, .bool (okNv k)]) ∧ _
    rw [HO.out]
    by_cases h1 : k < 2
    · go_enter Try.func34, Try.ntmps34
      go_wp2
      go_ret2
      exact ⟨_, rfl, Rd.nil _ _, Below.refl _ _⟩
    · have h2 : 17 < k := by omega
      clear h
      go_enter Try.func34, Try.ntmps34
      go_wp2
      go_ret2
      exact ⟨_, rfl, Rd.nil _ _, Below.refl _ _⟩

theorem spec_NeverWord (k : Int) (w : World) :
    Calls Try.prog 35 #[.int .i64 k] w fun e w' => ∃ u, e = .returned (.tuple #[u, .bool (OK_NeverWord k)]) ∧ Rd w' w.heap.size u (LF_NeverWord k) ∧ Below w.heap.size w w' := by
  by_cases h : 2 ≤ k ∧ k ≤ 17
  · obtain ⟨K, rfl⟩ : ∃ K : Nat, k = (K : Int) := ⟨k.toNat, by omega⟩
    have HO := Lib.hid (show okNv (K : Int) = true from decide_eq_true h)
    have HL := Lib.hid (show LF_NeverWord (K : Int) = nvW K by unfold LF_NeverWord; rw [HO.out, if_pos rfl, Int.toNat_natCast])
    rw [HL.out]
    show Calls _ _ _ _ fun e w' => ∃ u, e = .returned (.tuple #[u, .bool (okNv (K : Int))]) ∧ _
    rw [HO.out]
    obtain ⟨h1, h2⟩ := h
    have hK2 : K ≤ 17 := by omega
    have R0 := Lib.hid (show Rd (w.alloc (.cells #[.int .i64 1, .int .i64 0] 3)) w.heap.size (.slice (some ⟨w.heap.size, 0, none⟩) 2 2) ([1, 0] ++ List.replicate 0 1) from World.ownsRow_lit (e := 3) (size := 1) (base := w.heap.size) w #[.int .i64 1, .int .i64 0] 2 (Nat.le_refl _) (by unfold maxLen; omega) rfl)
    have B0 := Lib.hid (alloc_below w (.cells #[.int .i64 1, .int .i64 0] 3))
    go_enter Try.func35, Try.ntmps35
    go_wp2_with (go_at_call 82; go_loud (refine (l1In_yes _ _ _ _ h1 h2).mono ?_; rintro e w1 ⟨rfl, rfl⟩))
    go_loopw [4, 5] (fun o i wr => ∃ j : Nat, j ≤ K ∧ i = .int .i64 (j : Int) ∧ Rd wr w.heap.size o ([1, 0] ++ List.replicate j 1) ∧ Below w.heap.size w wr) (fun _ i _ => K - (intOf i).toNat)
    case atStart => exact ⟨0, Nat.zero_le _, rfl, R0.out, B0.out⟩
    case round =>
      obtain ⟨j, hj, rfl, hr, hb⟩ := hrel
      have HR := Lib.hid hr
      have HB := Lib.hid hb
      clear hr hb
      have hsz := HB.out.size
      by_cases hlt : j < K
      · go_wp2_with (at_builtin; go_loud (refine wpList_appR rfl _ _ rfl w.heap.size w.heap.size _ _ _ [1] rfl rfl (HR.out.alloc _) (Rd.litB _ _ _ (by omega)) (by simp; omega) (by simp; omega) ?_; intro v1 w2 hr1 hg1 hb1; have HR1 := Lib.hid hr1; have HB1 := Lib.hid ((HB.out.alloc (by omega) _).trans hb1); clear hr1 hg1 hb1))
        go_roundw
        case rel => exact ⟨j + 1, by omega, by go_num, by have h9 := HR1.out; rwa [List.append_assoc, show List.replicate j (1:Int) ++ [1] = List.replicate (j + 1) 1 by rw [List.replicate_succ']] at h9, HB1.out⟩
        case measure => simp [intOf]; omega
      · obtain rfl : j = K := by omega
        have hl1 : ([1, 0] ++ List.replicate j (1:Int)).length ≤ 100 := by simp; omega
        have HL1 := Lib.hid hl1
        have hjj : ((j : Int) < (j : Int)) = False := by simp
        clear hl1
        go_wp2_with (at_builtin; go_loud (refine wpList_appR rfl _ _ rfl w.heap.size 0 _ _ _ [0, 1] rfl rfl (HR.out.alloc _) (Rd.litw _ _ 2 _ [0, 1] (by simp) rfl rfl (by decide)) (by have := HL1.out; simp at this ⊢; omega) (by simp; omega) ?_; intro v1 w2 hr1 hg1 hb1; have HR1 := Lib.hid hr1; have HB1 := Lib.hid ((HB.out.alloc (by omega) _).trans hb1); clear hr1 hg1 hb1))
        go_loopw [4, 6] (fun o i wr2 => ∃ t : Nat, t ≤ j ∧ i = .int .i64 (t : Int) ∧ Rd wr2 w.heap.size o ([1, 0] ++ List.replicate j 1 ++ [0, 1] ++ List.replicate t 0) ∧ Below w.heap.size w wr2) (fun _ i _ => j - (intOf i).toNat)
        case atStart => exact ⟨0, Nat.zero_le _, rfl, by simpa using HR1.out, HB1.out⟩
        case round =>
          obtain ⟨t, ht, rfl, hr, hb⟩ := hrel
          have HR2 := Lib.hid hr
          have HB2 := Lib.hid hb
          clear hr hb
          have hsz2 := HB2.out.size
          by_cases hlt2 : t < j
          · go_wp2_with (at_builtin; go_loud (refine wpList_appR rfl _ _ rfl w.heap.size w.heap.size _ _ _ [0] rfl rfl (HR2.out.alloc _) (Rd.litB _ _ _ (by omega)) (by simp; omega) (by simp; omega) ?_; intro v3 w3 hr3 hg3 hb3; have HR3 := Lib.hid hr3; have HB3 := Lib.hid ((HB2.out.alloc (by omega) _).trans hb3); clear hr3 hg3 hb3))
            go_roundw
            case rel => exact ⟨t + 1, by omega, by go_num, by have h9 := HR3.out; rwa [List.append_assoc _ (List.replicate t (0:Int)) [0], show List.replicate t (0:Int) ++ [0] = List.replicate (t + 1) 0 by rw [List.replicate_succ']] at h9, HB3.out⟩
            case measure => simp [intOf]; omega
          · obtain rfl : t = j := by omega
            go_wp2
            go_ret2
            exact ⟨_, rfl, HR2.out, HB2.out⟩
  · have HO := Lib.hid (show okNv k = false from decide_eq_false h)
    have HL := Lib.hid (show LF_NeverWord k = [] by unfold LF_NeverWord; rw [HO.out, if_neg (by simp)])
    rw [HL.out]
    show Calls _ _ _ _ fun e w' => ∃ u, e = .returned (.tuple #[u, .bool (okNv k)]) ∧ _
    rw [HO.out]
    have HN := Lib.hid (show k < 2 ∨ 17 < k by omega)
    clear h
    go_enter Try.func35, Try.ntmps35
    go_wp2_with (go_at_call 82; go_loud (refine (l1In_no _ _ _ _ HN.out).mono ?_; rintro e w1 ⟨rfl, rfl⟩))
    go_ret2
    exact ⟨_, rfl, Rd.nil _ _, Below.refl _ _⟩

end Go.Proofs.Ytnggfcopndcppaa
