/-
  Prime factors: the program's; who is prime.
-/
import Derived.Test.Ytgiabadkbfbilab8G
import Derived.Test.Ytgiabadkbfbilab8N
import Derived.Test.YtgiabadkbfbilabK
namespace Go.Proofs.Ytgiabadkbfbilab
open Go.RowKit
set_option linter.unusedVariables false
set_option linter.unusedSimpArgs false
set_option maxRecDepth 100000

theorem flt_round {n : Int} (hn : Dv n) {j : Nat} (h : j < (pp n).length) {p : Int} {t : Nat} (hj : (pp n)[j]? = some (p, t)) : flt ((pp n).take (j + 1)) = flt ((pp n).take j) ++ List.replicate t p ∧ (flt ((pp n).take j)).length + t ≤ 30 := by
  obtain ⟨t1, t2⟩ := take_next (pp n) j h
  have he : (pp n)[j] = (p, t) := by rw [List.getElem?_eq_getElem h] at hj; exact Option.some.inj hj
  rw [he] at t1
  have e1 : flt ((pp n).take (j + 1)) = flt ((pp n).take j) ++ List.replicate t p := by rw [t1, flt_snoc]
  refine ⟨e1, ?_⟩
  have hf := (fac_bd (n := n) (by have := hn.1; omega) hn.2).1
  have e2 : fac n = flt ((pp n).take (j + 1)) ++ flt ((pp n).drop (j + 1)) := by rw [← flt_app, t2]; rfl
  rw [e2, List.length_append, e1, List.length_append, List.length_replicate] at hf
  omega

theorem factors_any (n : Int) (w : World) (hn : Dv n) :
    Calls Try.prog 128 #[.int .i64 n] w fun e w' => ∃ v, e = .returned v ∧ Rd w' w.heap.size v (fac n) ∧ Below w.heap.size w w' := by
  have HR := Lib.hid (fun j (h : j < (pp n).length) => sum_round hn h)
  have HFR := Lib.hid (fun j (h : j < (pp n).length) p t (e : (pp n)[j]? = some (p, t)) => flt_round hn h e)
  have HLen := Lib.hid (fac_bd (n := n) (by have := hn.1; omega) hn.2).2
  have HP := Lib.hid (fun w' => powers_any n w' hn)
  have HFX := Lib.hid (show fac n = flt (pp n) from rfl)
  rw [HFX.out]
  obtain ⟨X, hX⟩ : ∃ X, X = pp n := ⟨_, rfl⟩
  rw [← hX] at HR HLen HP HFR ⊢
  clear hX hn HFX
  go_enter Try.func128, Try.ntmps128
  go_wp2_with fail
  refine (HP.out _).mono ?_
  rintro e w1 ⟨v, rfl, hr, hb⟩
  have HB := Lib.hid hb
  have hlX : X.length ≤ 30 := by have := HLen.out; omega
  rcases hr.cases with ⟨rfl, hx⟩ | ⟨g, cap, rfl, hg0, hg1, hc⟩
  · subst hx
    clear hr hb
    go_wp2
    refine wp_loop_rounds 1 ?_
    rw [rounds_succ]
    go_wp2
    go_ret
    exact ⟨_, rfl, Rd.nil _ _, HB.out⟩
  · have HC := Lib.hid hc
    clear hr hb hc
    go_wp2
    go_loopw [3, 9] (fun s i wr => ∃ (j : Nat), j ≤ X.length ∧ i = .int .i64 (j : Int) ∧ Rd wr w1.heap.size s (flt (X.take j)) ∧ Below w1.heap.size w1 wr) (fun _ i _ => X.length - (intOf i).toNat)
    case atStart => exact ⟨0, Nat.zero_le _, rfl, Rd.nil _ _, Below.refl _ _⟩
    case round =>
      obtain ⟨j, hj, rfl, hr, hbl⟩ := hrel
      have HB2 := Lib.hid hbl
      have HR2 := Lib.hid hr
      clear hbl hr
      by_cases hlt : j < X.length
      · obtain ⟨p, t, e1, p0, p1, t0, t1, s1, s0, m1, m2, b1, b2, b3, b4, b5, b6, b7, b8⟩ := HR.out j hlt
        obtain ⟨f1, f2⟩ := HFR.out j hlt p t e1
        obtain ⟨cc0, cc1⟩ := HC.out j _ e1
        have c0 := Below.keeps_cell HB2.out cc0
        have c1 := Below.keeps_cell HB2.out cc1
        have HF1 := Lib.hid f1
        have HF2 := Lib.hid f2
        clear cc0 cc1 m1 m2 b1 b2 b3 b4 b5 b6 b7 b8 e1 f1 f2 s0 s1
        have HA0 := Lib.hid (HB2.out.alloc HB2.out.size (.cells #[.int .i64 p, .int .i64 (t : Int)] 93))
        have HA1 := Lib.hid (HA0.out.alloc HA0.out.size (.cells #[.int .i64 p] 3))
        have HRP := Lib.hid (show Calls Try.prog 138 #[.slice (some ⟨wr.heap.size + 1, 0, none⟩) 1 1, .int .i64 (t : Int)] ((wr.alloc (.cells #[.int .i64 p, .int .i64 (t : Int)] 93)).alloc (.cells #[.int .i64 p] 3)) fun e w' => ∃ u, e = .returned u ∧ Rd w' ((wr.alloc (.cells #[.int .i64 p, .int .i64 (t : Int)] 93)).alloc (.cells #[.int .i64 p] 3)).heap.size u (List.replicate t p) ∧ Below ((wr.alloc (.cells #[.int .i64 p, .int .i64 (t : Int)] 93)).alloc (.cells #[.int .i64 p] 3)).heap.size ((wr.alloc (.cells #[.int .i64 p, .int .i64 (t : Int)] 93)).alloc (.cells #[.int .i64 p] 3)) w' from
          repeat_any (wr.heap.size + 1) 1 t 0 p _ (by have h := Rd.litB (wr.alloc (.cells #[.int .i64 p, .int .i64 (t : Int)] 93)) 0 p (Nat.zero_le _); rw [World.size_alloc] at h; exact h) (by omega))
        go_wp2_with (first
          | (go_at_call 138; with_reducible (refine HRP.out.mono ?_); rintro e w3 ⟨u, rfl, hr3, hb3⟩; have HR3 := Lib.hid hr3; have HK := Lib.hid (((HR2.out.alloc _).alloc _).keep hb3); have HB3 := Lib.hid (Below.step HA1.out HA1.out.size hb3); clear hr3 hb3)
          | (at_builtin; refine wpList_appR rfl _ _ rfl w1.heap.size _ _ _ (flt (X.take j)) (List.replicate t p) rfl rfl HK.out HR3.out (by have := HF2.out; simp; omega) HB3.out.size ?_; intro v1 w4 hr4 hg4 hb4; rw [← HF1.out] at hr4; have HR4 := Lib.hid hr4; have HB4 := Lib.hid (HB3.out.trans hb4); clear hr4 hg4 hb4))
        go_roundw
        case rel => exact ⟨j + 1, by omega, by go_num, HR4.out, HB4.out⟩
        case measure => simp [intOf]; omega
      · obtain rfl : j = X.length := by omega
        have HE := Lib.hid (show X.take X.length = X from List.take_of_length_le (Nat.le_refl _))
        go_wp2
        go_ret
        exact ⟨_, rfl, by have h := HR2.out; rw [HE.out] at h; exact h.mono HB.out.size, Below.step HB.out HB.out.size HB2.out⟩

def OK_PrimeFactors (n : Int) : Bool := decide (Dv n)
def LF_PrimeFactors (n : Int) : List Int := if Dv n then fac n else []
theorem LF_PrimeFactors_len (n : Int) : (LF_PrimeFactors n).length ≤ 2000000 := by
  unfold LF_PrimeFactors
  split
  · rename_i h
    have := (fac_bd (n := n) (by have := h.1; omega) h.2).1
    omega
  · simp

/-- Who is prime: numbers with one factor. -/
def prm (n : Int) : Bool := decide ((fac n).length = 1)
theorem isPrime_any (n : Int) (w : World) (hn : Dv n) :
    Calls Try.prog 63 #[.int .i64 n] w fun e w' => e = .returned (.bool (prm n)) ∧ Below w.heap.size w w' := by
  have HM := Lib.hid (fun w' => factors_any n w' hn)
  have HP := Lib.hid (show prm n = (((fac n).length : Int) == 1) by
    unfold prm
    by_cases h : (fac n).length = 1
    · rw [h]; rfl
    · rw [beq_no (by omega)]; simp [h])
  have hl := (fac_bd (n := n) (by have := hn.1; omega) hn.2).1
  rw [HP.out]
  obtain ⟨r, hr⟩ : ∃ r, r = fac n := ⟨_, rfl⟩
  rw [← hr] at HM hl ⊢
  clear hr hn HP
  go_enter Try.func63, Try.ntmps63
  go_wp2_with (go_at_call 128; refine (HM.out _).mono ?_; rintro e w2 ⟨v, rfl, hr, hb⟩; obtain ⟨a5, c5, rfl⟩ := hr.sl.len; have HB := Lib.hid hb; clear hr hb)
  go_ret
  exact ⟨rfl, HB.out⟩
theorem dvPrime_any (n : Int) (w : World) (hn : Dv n) (h2 : 1 < n) :
    Calls Try.prog 66 #[.int .i64 n] w fun e w' => e = .returned (.bool (prm n)) ∧ Below w.heap.size w w' := by
  have HM := Lib.hid (fun w' => dvFactors_any n w' hn)
  have HP := Lib.hid (show prm n = (((fac n).length : Int) == 1) by
    unfold prm
    by_cases h : (fac n).length = 1
    · rw [h]; rfl
    · rw [beq_no (by omega)]; simp [h])
  have hl := (fac_bd (n := n) (by have := hn.1; omega) hn.2).1
  rw [HP.out]
  obtain ⟨r, hr⟩ : ∃ r, r = fac n := ⟨_, rfl⟩
  rw [← hr] at HM hl ⊢
  clear hr hn HP
  go_enter Try.func66, Try.ntmps66
  go_wp2_with (go_at_call 129; refine (HM.out _).mono ?_; rintro e w2 ⟨v, rfl, hr, hb⟩; obtain ⟨a5, c5, rfl⟩ := hr.sl.len; have HB := Lib.hid hb; clear hr hb)
  go_ret
  exact ⟨rfl, HB.out⟩

end Go.Proofs.Ytgiabadkbfbilab
