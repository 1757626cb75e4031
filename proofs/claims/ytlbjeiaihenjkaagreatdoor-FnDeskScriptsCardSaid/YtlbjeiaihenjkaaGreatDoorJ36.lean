/-
  Joint text of CL, CT: what each proves stands ahead of it.
-/
import Derived.Test.YtlbjeiaihenjkaaGreatDoorJ35
/- from CL: The model's texts: lists of numbers, answers that may fail, shapes of lines.  -/
namespace Go.Proofs.YtlbjeiaihenjkaaGreatDoor
open Go.RowKit
set_option linter.unusedVariables false
set_option linter.unusedSimpArgs false
set_option maxRecDepth 100000

theorem jn_snoc {l : List Int} (h : l ≠ []) (x : Int) : jnT (l ++ [x]) = jnT l ++ [44] ++ Lib.itoa x := by
  unfold jnT
  cases l with
  | nil => exact absurd rfl h
  | cons y r =>
    simp [Lib.join_cons, Lib.joinTail]
theorem jn_one (x : Int) : jnT [x] = Lib.itoa x := by
  unfold jnT
  rw [List.map_cons, List.map_nil, Lib.join_one]
theorem jn_take_len {l : List Int} (h : Nice l) : ∀ k, (jnT (l.take k)).length ≤ 22 * k
  | 0 => by simp [jnT, Lib.join_nil]
  | k + 1 => by
    have ih := jn_take_len h k
    by_cases hk : k < l.length
    · rw [take_snoc' l k hk]
      have h2 := itoa_len h l[k] (List.getElem_mem hk)
      by_cases h0 : l.take k = []
      · rw [h0, List.nil_append, jn_one]; omega
      · rw [jn_snoc h0, List.length_append, List.length_append]
        simp only [List.length_cons, List.length_nil]
        omega
    · rw [List.take_of_length_le (by omega)]
      rw [List.take_of_length_le (by omega)] at ih
      omega
theorem jn_len {l : List Int} (h : Nice l) : (jnT l).length ≤ 44000000 := by
  have := jn_take_len h l.length
  rw [List.take_length] at this
  have := h.1
  omega

theorem coText_any (l : List Int) (hl : Nice l) (v : Value) (D : Nat) (w : World) (hv : Rd w D v l) :
    Calls Tryz.prog 97 #[v] w fun e w' => e = .returned (str (orD (jnT l))) ∧ Below w.heap.size w w' := by
  have HV := Lib.hid hv
  have HNI := Lib.hid hl
  have hl2 := hl.1
  obtain ⟨J, hJ⟩ : ∃ J, J = jnT l := ⟨_, rfl⟩
  have HJ := Lib.hid hJ
  rw [← hJ]
  clear hJ
  obtain ⟨L, hL⟩ : ∃ L, L = l.length := ⟨_, rfl⟩
  obtain ⟨a, c, hac, hav⟩ := rd_formC hv
  have HAV := Lib.hid hav
  have HL := Lib.hid hL
  rw [← hL] at hac hl2
  subst hac
  clear hv hL hav hl
  go_enter Tryz.func97, Tryz.ntmps97
  go_wp2
  go_loopw [3, 8] (fun t i wr => ∃ (k : Nat) (q : Tx), k ≤ L ∧ i = .int .i64 (k : Int) ∧ t = str q ∧ Hid (q = jnT (l.take k)) ∧ Below w.heap.size w wr) (fun _ i _ => L - (intOf i).toNat)
  case atStart => exact ⟨0, [], Nat.zero_le _, rfl, rfl, by simp [jnT, Lib.join_nil, Hid], Below.refl _ _⟩
  case round =>
    obtain ⟨k, q, hk, rfl, rfl, HQ, hb⟩ := hrel
    have HB := Lib.hid hb
    clear hb
    have hq44 : q.length ≤ 44000000 := by
      have h1 := jn_take_len HNI.out k
      rw [← HQ.out] at h1
      omega
    by_cases hlt : k < L
    · have hkl : k < l.length := by rw [← HL.out]; exact hlt
      rcases HAV.out with hx | ⟨g, rfl, hg, hcs⟩
      · omega
      have hcell : wr.cell? ⟨g, k, none⟩ = some (.int .i64 l[k]) := (HB.out.cell (p := ⟨g, k, none⟩) hg).trans (hcs k hkl)
      have HTK := Lib.hid (take_snoc' l k hkl)
      obtain ⟨x0, x1⟩ := HNI.out.2 l[k] (List.getElem_mem hkl)
      have ht21 := itoa_len HNI.out l[k] (List.getElem_mem hkl)
      obtain ⟨x, hx⟩ : ∃ x, x = l[k] := ⟨_, rfl⟩
      rw [← hx] at hcell x0 x1 HTK ht21
      have HI := Lib.hid (fun W => l1Num_i x x0 x1 W)
      clear hcs hx x0 x1
      obtain ⟨t, ht⟩ : ∃ t, t = Lib.itoa x := ⟨_, rfl⟩
      have HTT := Lib.hid ht
      rw [← ht] at HI ht21
      clear ht
      by_cases h0 : k = 0
      · subst h0
        have HQ0 := Lib.hid (show q = [] by rw [HQ.out]; simp [jnT, Lib.join_nil])
        go_wp2_with (go_at_call 72; refine (HI.out _).mono ?_; rintro e w2 ⟨rfl, hb⟩; have HB2 := Lib.hid (HB.out.trans (hb.mono HB.out.size)); clear hb)
        go_roundw
        case rel => exact ⟨1, q ++ t, by omega, by go_num, congrArg Value.string (ByteArray.ext (by simp)), Lib.hid (by rw [HTK.out, HQ0.out, List.take_zero, List.nil_append, List.nil_append, jn_one, HTT.out]), HB2.out⟩
        case measure => simp [intOf]; omega
      · have hk0 : (0 : Int) < (k : Int) := by omega
        obtain ⟨q1, hq1⟩ : ∃ q1, q1 = q ++ [44] := ⟨_, rfl⟩
        have hq1l : q1.length ≤ 44000001 := by rw [hq1]; simp; omega
        have hadd := fun (W : World) => show (Op.stringOp .add (⟨q.toArray⟩ : ByteArray) ⟨#[44]⟩).run Tryz.prog W = .ok (str q1) W by
          rw [run_string_add_sum W _ _ (by rw [ba_sz]; simp [ByteArray.size]; omega), hq1]
          exact congrArg (fun b => Result.ok (Value.string b) W) (ByteArray.ext (by simp))
        have HQ1 := Lib.hid hq1
        clear hq1
        go_wp2_with (go_at_call 72; refine (HI.out _).mono ?_; rintro e w2 ⟨rfl, hb⟩; have HB2 := Lib.hid (HB.out.trans (hb.mono HB.out.size)); clear hb)
        have HTE := Lib.hid (show l.take k ≠ [] from fun e => by
          have := congrArg List.length e
          rw [List.length_take, List.length_nil] at this
          omega)
        go_roundw
        case rel => exact ⟨k + 1, q1 ++ t, by omega, by go_num, congrArg Value.string (ByteArray.ext (by simp)), Lib.hid (by rw [HTK.out, jn_snoc HTE.out, HQ1.out, HQ.out, HTT.out]), HB2.out⟩
        case measure => simp [intOf]; omega
    · obtain rfl : k = L := by omega
      have HF := Lib.hid (show q = J by rw [HQ.out, HJ.out, HL.out, List.take_length])
      cases q with
      | nil =>
        have HO := Lib.hid (show orD J = [45] by rw [← HF.out]; rfl)
        go_wp2
        go_ret
        exact ⟨by rw [HO.out]; rfl, HB.out⟩
      | cons c0 q' =>
        have HO := Lib.hid (show orD J = c0 :: q' by rw [← HF.out]; rfl)
        obtain ⟨q, hq⟩ : ∃ q, q = c0 :: q' := ⟨_, rfl⟩
        have he : List.isEmpty q = false := by rw [hq]; rfl
        rw [← hq] at HO ⊢
        clear hq
        go_wp2
        go_ret
        exact ⟨by rw [HO.out]; rfl, HB.out⟩

/-- What the model replies to something that may fail. -/
def noT (o : Option Tx) : Tx := match o with
  | some t => t
  | none => [110, 111]
theorem coNumber_any (o : Option Int) (ho : Pos o) (w : World) : Calls Tryz.prog 100 #[.int .i64 (o.getD 0), .bool o.isSome] w fun e w' => e = .returned (str (noT (o.map Lib.itoa))) ∧ Below w.heap.size w w' := by
  cases o with
  | none =>
    have HN := Lib.hid (show noT (Option.map Lib.itoa none) = [110, 111] from rfl)
    rw [HN.out]
    go_enter Tryz.func100, Tryz.ntmps100
    go_wp2
    go_ret
    exact ⟨rfl, Below.refl _ _⟩
  | some m =>
    have HI := Lib.hid (fun W => l1Num_i m (ho m rfl).1 (ho m rfl).2 W)
    obtain ⟨T, hT⟩ : ∃ T, T = Lib.itoa m := ⟨_, rfl⟩
    have HN := Lib.hid (show noT (Option.map Lib.itoa (some m)) = T from hT.symm)
    rw [← hT] at HI
    rw [HN.out]
    clear hT ho
    show Calls Tryz.prog 100 #[.int .i64 m, .bool true] w _
    go_enter Tryz.func100, Tryz.ntmps100
    go_wp2_with (go_at_call 72; refine (HI.out _).mono ?_; rintro e w2 ⟨rfl, hb⟩; have HB2 := Lib.hid hb; clear hb)
    go_ret
    exact ⟨rfl, HB2.out⟩
theorem coTold_any (ok : Bool) (l : List Int) (hl : Nice l) (v : Value) (D : Nat) (w : World) (hv : Rd w D v l) : Calls Tryz.prog 103 #[v, .bool ok] w fun e w' => e = .returned (str (noT (if ok then some (orD (jnT l)) else none))) ∧ Below w.heap.size w w' := by
  cases ok with
  | false =>
    have HN := Lib.hid (show noT (if false = true then some (orD (jnT l)) else none) = [110, 111] from rfl)
    rw [HN.out]
    obtain ⟨a, c, rfl, _⟩ := rd_formC hv
    obtain ⟨L, hL⟩ : ∃ L, L = l.length := ⟨_, rfl⟩
    rw [← hL]
    clear hL hv hl
    go_enter Tryz.func103, Tryz.ntmps103
    go_wp2
    go_ret
    exact ⟨rfl, Below.refl _ _⟩
  | true =>
    have HI := Lib.hid (fun W (h : Rd W D v l) => coText_any l hl v D W h)
    have HV := Lib.hid hv
    obtain ⟨T, hT⟩ : ∃ T, T = orD (jnT l) := ⟨_, rfl⟩
    have HN := Lib.hid (show noT (if true = true then some (orD (jnT l)) else none) = T from hT.symm)
    rw [← hT] at HI
    rw [HN.out]
    obtain ⟨a, c, rfl, _⟩ := rd_formC hv
    obtain ⟨L, hL⟩ : ∃ L, L = l.length := ⟨_, rfl⟩
    rw [← hL] at HI HV ⊢
    clear hT hL hv hl
    go_enter Tryz.func103, Tryz.ntmps103
    go_wp2_with (go_at_call 97; refine (HI.out _ HV.out).mono ?_; rintro e w2 ⟨rfl, hb⟩; have HB2 := Lib.hid hb; clear hb)
    go_ret
    exact ⟨rfl, HB2.out⟩

end Go.Proofs.YtlbjeiaihenjkaaGreatDoor

/- from CT: The model's shapes of lines; a line that is executed: its five cells; a number given to it.  -/
namespace Go.Proofs.YtlbjeiaihenjkaaGreatDoor
open Go.RowKit
set_option linter.unusedVariables false
set_option linter.unusedSimpArgs false
set_option maxRecDepth 100000

/-- The kinds of the words behind a first word. -/
def shp (x : Tx) : Tx :=
  if (x == [114, 101, 118, 101, 114, 115, 101]) = true then [] else
  if (x == [117, 112]) = true then [] else
  if (x == [100, 111, 119, 110]) = true then [] else
  if (x == [115, 116, 101, 112]) = true then [] else
  if (x == [115, 104, 111, 114, 116]) = true then [] else
  if (x == [110, 101, 120, 116]) = true then [] else
  if (x == [115, 104, 111, 119]) = true then [] else
  if (x == [100, 105, 103, 105, 116, 115]) = true then [] else
  if (x == [115, 117, 109]) = true then [] else
  if (x == [114, 111, 111, 116]) = true then [] else
  if (x == [119, 97, 121, 115]) = true then [] else
  if (x == [104, 97, 112, 112, 121]) = true then [] else
  if (x == [115, 116, 101, 112, 115]) = true then [] else
  if (x == [98, 97, 115, 101]) = true then [110] else
  if (x == [112, 111, 119, 101, 114]) = true then [110] else
  if (x == [114, 117, 110]) = true then [110] else
  if (x == [111, 119, 110]) = true then [110] else
  if (x == [119, 111, 114, 100]) = true then [110] else
  if (x == [116, 97, 107, 101]) = true then [116] else
  if (x == [110, 117, 109, 98, 101, 114]) = true then [119] else [63]

set_option maxHeartbeats 4000000 in
theorem coShape_any (x : Tx) (w : World) : Calls Tryz.prog 85 #[str x] w fun e w' => e = .returned (str (shp x)) ∧ w' = w := by
  cases q0 : (x == [114, 101, 118, 101, 114, 115, 101]) with
  | true =>
    have HR := Lib.hid (show shp x = [] by unfold shp; simp only [q0, if_true, if_false, Bool.false_eq_true])
    rw [HR.out]
    go_enter Tryz.func85, Tryz.ntmps85
    go_wp2
    go_ret
    exact ⟨rfl, rfl⟩
  | false =>
    cases q1 : (x == [117, 112]) with
    | true =>
      have HR := Lib.hid (show shp x = [] by unfold shp; simp only [q0, q1, if_true, if_false, Bool.false_eq_true])
      rw [HR.out]
      go_enter Tryz.func85, Tryz.ntmps85
      go_wp2
      go_ret
      exact ⟨rfl, rfl⟩
    | false =>
      cases q2 : (x == [100, 111, 119, 110]) with
      | true =>
        have HR := Lib.hid (show shp x = [] by unfold shp; simp only [q0, q1, q2, if_true, if_false, Bool.false_eq_true])
        rw [HR.out]
        go_enter Tryz.func85, Tryz.ntmps85
        go_wp2
        go_ret
        exact ⟨rfl, rfl⟩
      | false =>
        cases q3 : (x == [115, 116, 101, 112]) with
        | true =>
          have HR := Lib.hid (show shp x = [] by unfold shp; simp only [q0, q1, q2, q3, if_true, if_false, Bool.false_eq_true])
          rw [HR.out]
          go_enter Tryz.func85, Tryz.ntmps85
          go_wp2
          go_ret
          exact ⟨rfl, rfl⟩
        | false =>
          cases q4 : (x == [115, 104, 111, 114, 116]) with
          | true =>
            have HR := Lib.hid (show shp x = [] by unfold shp; simp only [q0, q1, q2, q3, q4, if_true, if_false, Bool.false_eq_true])
            rw [HR.out]
            go_enter Tryz.func85, Tryz.ntmps85
            go_wp2
            go_ret
            exact ⟨rfl, rfl⟩
          | false =>
            cases q5 : (x == [110, 101, 120, 116]) with
            | true =>
              have HR := Lib.hid (show shp x = [] by unfold shp; simp only [q0, q1, q2, q3, q4, q5, if_true, if_false, Bool.false_eq_true])
              rw [HR.out]
              go_enter Tryz.func85, Tryz.ntmps85
              go_wp2
              go_ret
              exact ⟨rfl, rfl⟩
            | false =>
              cases q6 : (x == [115, 104, 111, 119]) with
              | true =>
                have HR := Lib.hid (show shp x = [] by unfold shp; simp only [q0, q1, q2, q3, q4, q5, q6, if_true, if_false, Bool.false_eq_true])
                rw [HR.out]
                go_enter Tryz.func85, Tryz.ntmps85
                go_wp2
                go_ret
                exact ⟨rfl, rfl⟩
              | false =>
                cases q7 : (x == [100, 105, 103, 105, 116, 115]) with
                | true =>
                  have HR := Lib.hid (show shp x = [] by unfold shp; simp only [q0, q1, q2, q3, q4, q5, q6, q7, if_true, if_false, Bool.false_eq_true])
                  rw [HR.out]
                  go_enter Tryz.func85, Tryz.ntmps85
                  go_wp2
                  go_ret
                  exact ⟨rfl, rfl⟩
                | false =>
                  cases q8 : (x == [115, 117, 109]) with
                  | true =>
                    have HR := Lib.hid (show shp x = [] by unfold shp; simp only [q0, q1, q2, q3, q4, q5, q6, q7, q8, if_true, if_false, Bool.false_eq_true])
                    rw [HR.out]
                    go_enter Tryz.func85, Tryz.ntmps85
                    go_wp2
                    go_ret
                    exact ⟨rfl, rfl⟩
                  | false =>
                    cases q9 : (x == [114, 111, 111, 116]) with
                    | true =>
                      have HR := Lib.hid (show shp x = [] by unfold shp; simp only [q0, q1, q2, q3, q4, q5, q6, q7, q8, q9, if_true, if_false, Bool.false_eq_true])
                      rw [HR.out]
                      go_enter Tryz.func85, Tryz.ntmps85
                      go_wp2
                      go_ret
                      exact ⟨rfl, rfl⟩
                    | false =>
                      cases q10 : (x == [119, 97, 121, 115]) with
                      | true =>
                        have HR := Lib.hid (show shp x = [] by unfold shp; simp only [q0, q1, q2, q3, q4, q5, q6, q7, q8, q9, q10, if_true, if_false, Bool.false_eq_true])
                        rw [HR.out]
                        go_enter Tryz.func85, Tryz.ntmps85
                        go_wp2
                        go_ret
                        exact ⟨rfl, rfl⟩
                      | false =>
                        cases q11 : (x == [104, 97, 112, 112, 121]) with
                        | true =>
                          have HR := Lib.hid (show shp x = [] by unfold shp; simp only [q0, q1, q2, q3, q4, q5, q6, q7, q8, q9, q10, q11, if_true, if_false, Bool.false_eq_true])
                          rw [HR.out]
                          go_enter Tryz.func85, Tryz.ntmps85
                          go_wp2
                          go_ret
                          exact ⟨rfl, rfl⟩
                        | false =>
                          cases q12 : (x == [115, 116, 101, 112, 115]) with
                          | true =>
                            have HR := Lib.hid (show shp x = [] by unfold shp; simp only [q0, q1, q2, q3, q4, q5, q6, q7, q8, q9, q10, q11, q12, if_true, if_false, Bool.false_eq_true])
                            rw [HR.out]
                            go_enter Tryz.func85, Tryz.ntmps85
                            go_wp2
                            go_ret
                            exact ⟨rfl, rfl⟩
                          | false =>
                            cases q13 : (x == [98, 97, 115, 101]) with
                            | true =>
                              have HR := Lib.hid (show shp x = [110] by unfold shp; simp only [q0, q1, q2, q3, q4, q5, q6, q7, q8, q9, q10, q11, q12, q13, if_true, if_false, Bool.false_eq_true])
                              rw [HR.out]
                              go_enter Tryz.func85, Tryz.ntmps85
                              go_wp2
                              go_ret
                              exact ⟨rfl, rfl⟩
                            | false =>
                              cases q14 : (x == [112, 111, 119, 101, 114]) with
                              | true =>
                                have HR := Lib.hid (show shp x = [110] by unfold shp; simp only [q0, q1, q2, q3, q4, q5, q6, q7, q8, q9, q10, q11, q12, q13, q14, if_true, if_false, Bool.false_eq_true])
                                rw [HR.out]
                                go_enter Tryz.func85, Tryz.ntmps85
                                go_wp2
                                go_ret
                                exact ⟨rfl, rfl⟩
                              | false =>
                                cases q15 : (x == [114, 117, 110]) with
                                | true =>
                                  have HR := Lib.hid (show shp x = [110] by unfold shp; simp only [q0, q1, q2, q3, q4, q5, q6, q7, q8, q9, q10, q11, q12, q13, q14, q15, if_true, if_false, Bool.false_eq_true])
                                  rw [HR.out]
                                  go_enter Tryz.func85, Tryz.ntmps85
                                  go_wp2
                                  go_ret
                                  exact ⟨rfl, rfl⟩
                                | false =>
                                  cases q16 : (x == [111, 119, 110]) with
                                  | true =>
                                    have HR := Lib.hid (show shp x = [110] by unfold shp; simp only [q0, q1, q2, q3, q4, q5, q6, q7, q8, q9, q10, q11, q12, q13, q14, q15, q16, if_true, if_false, Bool.false_eq_true])
                                    rw [HR.out]
                                    go_enter Tryz.func85, Tryz.ntmps85
                                    go_wp2
                                    go_ret
                                    exact ⟨rfl, rfl⟩
                                  | false =>
                                    cases q17 : (x == [119, 111, 114, 100]) with
                                    | true =>
                                      have HR := Lib.hid (show shp x = [110] by unfold shp; simp only [q0, q1, q2, q3, q4, q5, q6, q7, q8, q9, q10, q11, q12, q13, q14, q15, q16, q17, if_true, if_false, Bool.false_eq_true])
                                      rw [HR.out]
                                      go_enter Tryz.func85, Tryz.ntmps85
                                      go_wp2
                                      go_ret
                                      exact ⟨rfl, rfl⟩
                                    | false =>
                                      cases q18 : (x == [116, 97, 107, 101]) with
                                      | true =>
                                        have HR := Lib.hid (show shp x = [116] by unfold shp; simp only [q0, q1, q2, q3, q4, q5, q6, q7, q8, q9, q10, q11, q12, q13, q14, q15, q16, q17, q18, if_true, if_false, Bool.false_eq_true])
                                        rw [HR.out]
                                        go_enter Tryz.func85, Tryz.ntmps85
                                        go_wp2
                                        go_ret
                                        exact ⟨rfl, rfl⟩
                                      | false =>
                                        cases q19 : (x == [110, 117, 109, 98, 101, 114]) with
                                        | true =>
                                          have HR := Lib.hid (show shp x = [119] by unfold shp; simp only [q0, q1, q2, q3, q4, q5, q6, q7, q8, q9, q10, q11, q12, q13, q14, q15, q16, q17, q18, q19, if_true, if_false, Bool.false_eq_true])
                                          rw [HR.out]
                                          go_enter Tryz.func85, Tryz.ntmps85
                                          go_wp2
                                          go_ret
                                          exact ⟨rfl, rfl⟩
                                        | false =>
                                          have HR := Lib.hid (show shp x = [63] by unfold shp; simp only [q0, q1, q2, q3, q4, q5, q6, q7, q8, q9, q10, q11, q12, q13, q14, q15, q16, q17, q18, q19, if_false, Bool.false_eq_true])
                                          rw [HR.out]
                                          go_enter Tryz.func85, Tryz.ntmps85
                                          go_wp2
                                          go_ret
                                          exact ⟨rfl, rfl⟩

/-- A line that is executed: its memory. -/
structure Ln (w : World) (g : Nat) (n b m : Int) (t : Tx) (nv : Value) : Prop where
  lt : g < w.heap.size
  c0 : w.cell? ⟨g, 0, none⟩ = some (.int .i64 n)
  c1 : w.cell? ⟨g, 1, none⟩ = some (.int .i64 b)
  c2 : w.cell? ⟨g, 2, none⟩ = some (.int .i64 m)
  c3 : w.cell? ⟨g, 3, none⟩ = some (str t)
  c4 : w.cell? ⟨g, 4, none⟩ = some nv
  free : ∀ j, w.frozen? ⟨g, j, none⟩ = false
theorem Ln.keep {w w' : World} {g : Nat} {n b m : Int} {t : Tx} {nv : Value} (h : Ln w g n b m t nv) (hb : Below w.heap.size w w') : Ln w' g n b m t nv :=
  ⟨Nat.lt_of_lt_of_le h.lt hb.size, (hb.cell (p := ⟨g, 0, none⟩) h.lt).trans h.c0, (hb.cell (p := ⟨g, 1, none⟩) h.lt).trans h.c1, (hb.cell (p := ⟨g, 2, none⟩) h.lt).trans h.c2, (hb.cell (p := ⟨g, 3, none⟩) h.lt).trans h.c3, (hb.cell (p := ⟨g, 4, none⟩) h.lt).trans h.c4, fun j => (hb.frozen (p := ⟨g, j, none⟩) h.lt).trans (h.free j)⟩

/-- Behind a line's own change: the two cells of its desk; nothing else turned below the heap's end. -/
structure Gv (w w' : World) (g : Nat) (n b : Int) : Prop where
  c0 : w'.cell? ⟨g, 0, none⟩ = some (.int .i64 n)
  c1 : w'.cell? ⟨g, 1, none⟩ = some (.int .i64 b)
  grown : w.grownBy w' (some g)

theorem below_grow {w w' : World} (h : Below w.heap.size w w') (r : Option Nat) : w.grownBy w' r := ⟨h.os, h.tape, h.output, h.size, fun k hk _ => h.block k hk⟩
theorem grown_setCell' (w : World) (g j : Nat) (u : Value) : w.grownBy (w.setCell ⟨g, j, none⟩ u) (some g) :=
  ⟨rfl, rfl, rfl, by simp, fun k hk hne => by
    simp only [World.setCell, Array.getElem?_modify]
    rw [if_neg (fun e => hne (by rw [e]))]⟩
theorem grown_trans' {a b c : World} {r : Option Nat} (h : a.grownBy b r) (k : b.grownBy c r) : a.grownBy c r :=
  ⟨k.os.trans h.os, k.tape.trans h.tape, k.output.trans h.output, Nat.le_trans h.size k.size, fun i hi hn => (k.block i (Nat.lt_of_lt_of_le hi h.size) hn).trans (h.block i hi hn)⟩

theorem give_no (g : Nat) (n b m z : Int) (t : Tx) (nv : Value) (w : World) (h : Ln w g n b m t nv) :
    Calls Tryz.prog 89 #[.pointer (some ⟨g, 0, none⟩), .int .i64 z, .bool false] w fun e w' => e = .returned (str [110, 111]) ∧ w' = w := by
  have HH := Lib.hid h
  clear h
  go_enter Tryz.func89, Tryz.ntmps89
  go_wp2
  go_ret
  exact ⟨rfl, rfl⟩
theorem give_yes (g : Nat) (n b m z : Int) (t : Tx) (nv : Value) (hz : Num z) (hB : Bas b) (w : World) (h : Ln w g n b m t nv) :
    Calls Tryz.prog 89 #[.pointer (some ⟨g, 0, none⟩), .int .i64 z, .bool true] w fun e w' => e = .returned (str (RText z b)) ∧ Gv w w' g z b := by
  have a1 : decide (Num z) = true := decide_eq_true hz
  have HH := Lib.hid h
  have c0 := h.c0
  have c1 := h.c1
  have f0 := h.free 0
  have f1 := h.free 1
  have HT := Lib.hid (fun W => dgText_any z b W hz.1 hz.2 hB.1 hB.2)
  rw [show txt (dgs b z) = RText z b from (if_pos ⟨hz, hB⟩).symm] at HT
  obtain ⟨T, hT⟩ : ∃ T, T = RText z b := ⟨_, rfl⟩
  rw [← hT] at HT ⊢
  have hne : (⟨g, 0, none⟩ : Addr) ≠ ⟨g, 1, none⟩ := fun e => by simp at e
  have d0 := Lib.hid (World.cell?_setCell_same w ⟨g, 0, none⟩ (.int .i64 z) c0)
  have d1 : (w.setCell ⟨g, 0, none⟩ (.int .i64 z)).cell? ⟨g, 1, none⟩ = some (.int .i64 b) := (World.cell?_setCell_other _ _ _ _ hne).trans c1
  have HL := Lib.hid (show g < (w.setCell ⟨g, 0, none⟩ (.int .i64 z)).heap.size by simpa using h.lt)
  clear h hT hz hB
  go_enter Tryz.func89, Tryz.ntmps89
  go_wp2_with (first | (go_at_call 83; refine (dgNumber_any _ _).mono ?_; rintro e w1 ⟨rfl, rfl⟩) | (go_at_call 74; refine (HT.out _).mono ?_; rintro e w1 ⟨rfl, hb⟩; have HB := Lib.hid hb; clear hb))
  go_ret
  exact ⟨rfl, (HB.out.cell (p := ⟨g, 0, none⟩) HL.out).trans d0.out, (HB.out.cell (p := ⟨g, 1, none⟩) HL.out).trans d1, grown_trans' (grown_setCell' w g 0 _) (below_grow HB.out _)⟩

end Go.Proofs.YtlbjeiaihenjkaaGreatDoor
