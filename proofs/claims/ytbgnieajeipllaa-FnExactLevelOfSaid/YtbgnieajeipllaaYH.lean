/-
  The first number less than the first: the program's and the model's answers.
-/
import Derived.Test.YtbgnieajeipllaaYG
namespace Go.Proofs.Ytbgnieajeipllaa
open Go.RowKit
set_option linter.unusedVariables false
set_option linter.unusedSimpArgs false
set_option maxRecDepth 100000

def FN (n : Int) : Prop := 2 ≤ n ∧ n ≤ 1000000000000
theorem fal_in {n : Int} (h : FN n) : fal n = wlk (El n) 1 1000 n := if_pos h
theorem fal_no {n : Int} (h : ¬ FN n) : fal n = none := if_neg h
theorem fal_props {n : Int} {l : List Int} (hn : FN n) (h : fal n = some l) : 1 ≤ l.length ∧ l.length ≤ 1001 := by
  rw [fal_in hn] at h
  obtain ⟨a, b, _⟩ := wlk_props 1000 n l ⟨by have := hn.1; omega, hn.2⟩ h
  exact ⟨a, b⟩
theorem fall_run {n : Int} {X : Option (List Int)} (hn : FN n) (h : fal n = X) (g gn : Nat) (w : World) (hc : w.cell? ⟨g, 0, none⟩ = some (.int .i64 1)) (hn2 : w.cell? ⟨gn, 0, none⟩ = some (.int .i64 n)) :
    Calls Try.prog 59 #[.agg #[stepV g, .func (.func 75) #[] #[.pointer (some ⟨gn, 0, none⟩)]], .int .i64 n] w fun e w' => ∃ v, e = .returned (.tuple #[v, .bool X.isSome]) ∧ Rd w' w.heap.size v (X.getD []) ∧ Below w.heap.size w w' := by
  rw [← h, fal_in hn]
  exact run_less n gn 1 n g w ⟨by have := hn.1; omega, hn.2⟩ (by omega) (by omega) hc hn2

theorem impl_FallsBelow (n : Int) (w : World) :
    Calls Try.prog 41 #[.int .i64 n] w fun e w' => e = .returned (optRes (RFallsBelow n)) ∧ Below w.heap.size w w' := by
  have HB0 := Lib.hid (al_below w (.cells #[.int .i64 n] 3))
  have HN0 := Lib.hid (show (w.alloc (.cells #[.int .i64 n] 3)).cell? ⟨w.heap.size, 0, none⟩ = some (.int .i64 n) by simp [go_sem])
  have hmf : ∀ (fn : Fn) (first cap : Array Value) (w : World), (Instr.makeFunc fn first cap).run Try.prog w = .ok (.func fn first cap) w := fun _ _ _ _ => rfl
  by_cases hn : Nst n
  · have a1 : decide (Nst n) = true := decide_eq_true hn
    by_cases h2 : 2 ≤ n
    · have hF : FN n := ⟨h2, hn.2⟩
      have hlt : decide (n < 2) = false := decide_eq_false (by omega)
      have c0 : (w.alloc (.cells #[.int .i64 n] 3)).drew.cell? ⟨w.heap.size, 0, none⟩ = some (.int .i64 n) := HN0.out
      cases hX : fal n with
      | none =>
        have HS := Lib.hid (show RFallsBelow n = none by rw [RFallsBelow, hX]; rfl)
        have HW := Lib.hid (fun g gn w' => fall_run hF hX g gn w')
        clear hX hn hF
        go_enter Try.func41, Try.ntmps41
        go_wp2_with (go_at_call 57; refine (isStart_any _ _).mono ?_; rintro e w1 ⟨rfl, rfl⟩)
        go_region_held3 (fun w' => w'.cell? ⟨w.heap.size, 0, none⟩ = some (.int .i64 n)) (first | exact c0 | exact c1 | exact c2) (first
          | (go_at_call 55; refine (stepWith_any _ _).mono ?_; rintro e w1 ⟨g, rfl, hg, hc, hb⟩; have HC := Lib.hid hc; have c1 := Below.keeps_cell hb c0; have B1 := Lib.hid (Below.step HB0.out.drew HB0.out.drew.size hb); clear hb hc)
          | (go_at_call 59; refine (HW.out g _ _ HC.out c1).mono ?_; rintro e w2 ⟨v, rfl, hr, hb⟩; have c2 := Below.keeps_cell hb c1; have B2 := Lib.hid (Below.step B1.out B1.out.size hb); clear hr hb))
        go_wp2
        go_ret2
        exact ⟨by rw [HS.out]; rfl, B2.out⟩
      | some l =>
        have HS := Lib.hid (show RFallsBelow n = some ((l.length : Int) - 1) by rw [RFallsBelow, hX]; rfl)
        have HW := Lib.hid (fun g gn w' => fall_run hF hX g gn w')
        obtain ⟨l1, l2⟩ := fal_props hF hX
        clear hX hn hF
        go_enter Try.func41, Try.ntmps41
        go_wp2_with (go_at_call 57; refine (isStart_any _ _).mono ?_; rintro e w1 ⟨rfl, rfl⟩)
        go_region_held3 (fun w' => w'.cell? ⟨w.heap.size, 0, none⟩ = some (.int .i64 n)) (first | exact c0 | exact c1 | exact c2) (first
          | (go_at_call 55; refine (stepWith_any _ _).mono ?_; rintro e w1 ⟨g, rfl, hg, hc, hb⟩; have HC := Lib.hid hc; have c1 := Below.keeps_cell hb c0; have B1 := Lib.hid (Below.step HB0.out.drew HB0.out.drew.size hb); clear hb hc)
          | (go_at_call 59; refine (HW.out g _ _ HC.out c1).mono ?_; rintro e w2 ⟨v, rfl, hr, hb⟩; have c2 := Below.keeps_cell hb c1; have B2 := Lib.hid (Below.step B1.out B1.out.size hb); obtain ⟨a5, c5, rfl⟩ := hr.sl.len; clear hr hb))
        go_wp2
        go_ret2
        exact ⟨by rw [HS.out]; first | rfl | (simp [optRes]; done) | go_num, B2.out⟩
    · have hlt : decide (n < 2) = true := decide_eq_true (by omega)
      have HS := Lib.hid (show RFallsBelow n = none by rw [RFallsBelow, fal_no (fun h => h2 h.1)]; rfl)
      clear hn
      go_enter Try.func41, Try.ntmps41
      go_wp2_with (go_at_call 57; refine (isStart_any _ _).mono ?_; rintro e w1 ⟨rfl, rfl⟩)
      go_ret2
      exact ⟨by rw [HS.out]; rfl, HB0.out⟩
  · have a1 : decide (Nst n) = false := decide_eq_false hn
    have HS := Lib.hid (show RFallsBelow n = none by rw [RFallsBelow, fal_no (fun h => hn ⟨by have := h.1; omega, h.2⟩)]; rfl)
    clear hn
    go_enter Try.func41, Try.ntmps41
    go_wp2_with (go_at_call 57; refine (isStart_any _ _).mono ?_; rintro e w1 ⟨rfl, rfl⟩)
    go_ret2
    exact ⟨by rw [HS.out]; rfl, HB0.out⟩

theorem lenO_pre {o : Option (List Int)} {pre : List Int} {m : Int} (h : o = some (pre ++ [m])) : lenO o = some (pre.length : Int) := by
  rw [h]
  simp [lenO]

theorem spec_FallsBelow (n : Int) (w : World) :
    Calls Try.prog 40 #[.int .i64 n] w fun e w' => e = .returned (optRes (RFallsBelow n)) ∧ Below w.heap.size w w' := by
  by_cases hn : FN n
  · obtain ⟨X, hX⟩ : ∃ X, X = fal n := ⟨_, rfl⟩
    have HS := Lib.hid (show RFallsBelow n = lenO X by rw [RFallsBelow, hX])
    have HX := Lib.hid (show X = wlk (El n) 1 1000 n by rw [hX, fal_in hn])
    obtain ⟨h2, h1⟩ := hn
    clear hX
    go_enter Try.func40, Try.ntmps40
    go_wp2_with (go_at_call 71; refine (l1In_yes _ _ _ _ h2 h1).mono ?_; rintro e w1 ⟨rfl, rfl⟩)
    go_loop [4, 5] (fun i o => ∃ (m : Int) (pre : List Int), i = .int .i64 m ∧ Hid (Nst m) ∧ pre.length ≤ 1000 ∧ o = .int .i64 (pre.length : Int) ∧ Hid (jn pre (wlk (El n) 1 (1000 - pre.length) m) = X)) (fun _ o => 1001 - (intOf o).toNat)
    case atStart => exact ⟨n, [], rfl, Lib.hid ⟨by omega, h1⟩, by simp, rfl, Lib.hid (by rw [jn_nil, HX.out]; rfl)⟩
    case round =>
      obtain ⟨m, pre, rfl, HM, hpl, rfl, HE⟩ := hrel
      obtain ⟨K, hK⟩ : ∃ K, K = pre.length := ⟨_, rfl⟩
      have HK := Lib.hid hK
      rw [← hK] at hpl ⊢
      clear hK
      have m0' := HM.out.1
      have m1' := HM.out.2
      by_cases hq : m < n
      · have HE2 := Lib.hid (show lenO X = some (K : Int) by rw [HK.out]; exact lenO_pre (by rw [← HE.out]; exact wlk_jn_end pre (decide_eq_true hq)))
        go_wp2
        go_ret2
        exact ⟨by rw [HS.out, HE2.out]; rfl, Below.refl _ _⟩
      · have hE : El n m = false := decide_eq_false hq
        by_cases hs : Nst (stp 1 m)
        · have a1 : decide (Nst (stp 1 m)) = true := decide_eq_true hs
          by_cases hlt : K < 1000
          · have HE2 := Lib.hid (wlk_jn_step (pre := pre) hE hs (by rw [← HK.out]; exact hlt))
            have HNZ := Lib.hid hs
            have HSS := Lib.hid (fun w' => stStep_any m 1 w' (by omega) (by omega) (by omega) (by omega))
            obtain ⟨z, hz⟩ : ∃ z, z = stp 1 m := ⟨_, rfl⟩
            rw [← hz] at a1 HE2 HNZ HSS
            clear hs hz hE
            go_wp2_with (first | (go_at_call 53; refine (HSS.out _).mono ?_; rintro e w1 ⟨rfl, rfl⟩) | (go_at_call 51; refine (stNumber_any _ _).mono ?_; rintro e w1 ⟨rfl, rfl⟩))
            go_round
            case rel => exact ⟨z, pre ++ [m], rfl, Lib.hid HNZ.out, by have := HK.out; simp; omega, by have := HK.out; first | (simp [← this]; done) | (simp [← this] <;> go_num), Lib.hid (by rw [← HE.out, HE2.out])⟩
            case measure => simp [intOf]; omega
          · have HE2 := Lib.hid (show X = none by rw [← HE.out]; exact wlk_jn_long hE (by rw [← HK.out]; omega))
            have HSS := Lib.hid (fun w' => stStep_any m 1 w' (by omega) (by omega) (by omega) (by omega))
            obtain ⟨z, hz⟩ : ∃ z, z = stp 1 m := ⟨_, rfl⟩
            rw [← hz] at a1 HSS
            clear hs hz hE
            go_wp2_with (first | (go_at_call 53; refine (HSS.out _).mono ?_; rintro e w1 ⟨rfl, rfl⟩) | (go_at_call 51; refine (stNumber_any _ _).mono ?_; rintro e w1 ⟨rfl, rfl⟩))
            go_ret2
            exact ⟨by rw [HS.out, HE2.out]; rfl, Below.refl _ _⟩
        · have a1 : decide (Nst (stp 1 m)) = false := decide_eq_false hs
          have HE2 := Lib.hid (show X = none by rw [← HE.out]; exact wlk_jn_out pre hE hs)
          have HSS := Lib.hid (fun w' => stStep_any m 1 w' (by omega) (by omega) (by omega) (by omega))
          obtain ⟨z, hz⟩ : ∃ z, z = stp 1 m := ⟨_, rfl⟩
          rw [← hz] at a1 HSS
          clear hs hz hE
          go_wp2_with (first | (go_at_call 53; refine (HSS.out _).mono ?_; rintro e w1 ⟨rfl, rfl⟩) | (go_at_call 51; refine (stNumber_any _ _).mono ?_; rintro e w1 ⟨rfl, rfl⟩))
          go_ret2
          exact ⟨by rw [HS.out, HE2.out]; rfl, Below.refl _ _⟩
  · have HS := Lib.hid (show RFallsBelow n = none by rw [RFallsBelow, fal_no hn]; rfl)
    have h2 : n < 2 ∨ 1000000000000 < n := by
      by_cases h3 : n < 2
      · exact .inl h3
      · right
        have : ¬ n ≤ 1000000000000 := fun h4 => hn ⟨by omega, h4⟩
        omega
    clear hn
    go_enter Try.func40, Try.ntmps40
    go_wp2_with (go_at_call 71; refine (l1In_no _ _ _ _ h2).mono ?_; rintro e w1 ⟨rfl, rfl⟩)
    go_ret2
    exact ⟨by rw [HS.out]; rfl, Below.refl _ _⟩

theorem law_FallsBelow (n : Int) (w : World) :
    Calls Try.prog 13 #[.int .i64 n] w fun e w' => e = .returned (.bool true) ∧ Below w.heap.size w w' := by
  go_enter Try.func13, Try.ntmps13
  go_wp2_with (first | (go_at_call 40; refine (spec_FallsBelow _ _).mono ?_; rintro e w1 ⟨rfl, hbl⟩; have HB1 := Lib.hid hbl; clear hbl) | (go_at_call 41; refine (impl_FallsBelow _ _).mono ?_; rintro e w2 ⟨rfl, hbl⟩; have HB2 := Lib.hid hbl; clear hbl))
  go_ret
  exact ⟨by simp, Below.step HB1.out HB1.out.size HB2.out⟩

end Go.Proofs.Ytbgnieajeipllaa
