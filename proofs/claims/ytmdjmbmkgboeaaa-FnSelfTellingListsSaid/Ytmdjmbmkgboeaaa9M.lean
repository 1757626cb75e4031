/-
  What a list says: the program's and the model's answers.
-/
import Derived.Test.Ytmdjmbmkgboeaaa9L
import Derived.Test.YtmdjmbmkgboeaaaR2
import Derived.Test.YtmdjmbmkgboeaaaM
namespace Go.Proofs.Ytmdjmbmkgboeaaa
open Go.RowKit
set_option linter.unusedVariables false
set_option linter.unusedSimpArgs false
set_option maxRecDepth 100000

theorem Rd.lit2B (w : World) (B : Nat) (p q : Int) (hB : B ≤ w.heap.size) : Rd (w.alloc (.cells #[.int .i64 p, .int .i64 q] 3)) B (.slice (some ⟨w.heap.size, 0, none⟩) 2 2) [p, q] := by
  have := World.ownsRow_lit (e := 3) (size := 1) (base := w.heap.size) w #[.int .i64 p, .int .i64 q] 2 (Nat.le_refl _) (by unfold maxLen; omega) rfl
  exact Rd.mono this hB

theorem sayF_next (S : List (Nat × Int)) (j t : Nat) (x : Int) (h : S[j]? = some (t, x)) : sayF (S.take (j + 1)) = sayF (S.take j) ++ [(t : Int), x] := by
  have hj : j < S.length := (List.getElem?_eq_some_iff.1 h).1
  have e : S.take (j + 1) = S.take j ++ [(t, x)] := by
    rw [List.take_add_one, h]; rfl
  rw [e, sayF_app]
  rfl

def LF_SayWord (xs : List Int) : List Int := if okS xs = true then sayL xs else []
def OK_SayWord (xs : List Int) : Bool := okS xs
theorem LF_SayWord_len (xs : List Int) (h : xs.length ≤ 1048576) : (LF_SayWord xs).length ≤ 2000000 := by
  unfold LF_SayWord
  split
  · rename_i h
    unfold okS at h
    simp only [Bool.and_eq_true, decide_eq_true_eq] at h
    omega
  · simp

theorem say_sl (v : Value) (xs : List Int) (w : World) (hv : Sl w v xs) (hl : xs.length ≤ 2000000) :
    Calls Try.prog 9 #[v] w fun e w' => ∃ u, e = .returned (.tuple #[u, .bool (OK_SayWord xs)]) ∧ Rd w' w.heap.size u (LF_SayWord xs) ∧ Below w.heap.size w w' := by
  have HV := Lib.hid hv
  have HI := Lib.hid (fun w' (h : Sl w' v xs) => isToSay_any v xs w' h hl)
  cases hq : toSay xs with
  | false =>
    have HO := Lib.hid (show OK_SayWord xs = false by unfold OK_SayWord okS; rw [hq]; rfl)
    have HL := Lib.hid (show LF_SayWord xs = [] from if_neg (by unfold okS; rw [hq]; simp))
    rw [hq] at HI
    rw [HO.out, HL.out]
    obtain ⟨a, cap, rfl⟩ := hv.len
    clear hq hv
    go_enter Try.func9, Try.ntmps9
    go_wp2_with (go_at_call 55; refine (HI.out _ HV.out).mono ?_; rintro e w1 ⟨rfl, hb⟩; have HB := Lib.hid hb; clear hb)
    go_ret2
    exact ⟨_, rfl, Rd.nil _ _, HB.out⟩
  | true =>
    rw [hq] at HI
    have h4 : xs.length ≤ 400 := by
      rw [toSay_iff] at hq
      simp only [Bool.and_eq_true, decide_eq_true_eq] at hq
      exact hq.1
    have HS := Lib.hid (fun w' (h : Sl w' v xs) => stretchesOf_any v xs w' h (by omega))
    have HO := Lib.hid (show OK_SayWord xs = decide ((sayL xs).length ≤ 400) by unfold OK_SayWord okS; rw [hq]; rfl)
    have HL := Lib.hid (show LF_SayWord xs = if (sayL xs).length ≤ 400 then sayL xs else [] by
      unfold LF_SayWord okS
      rw [hq]
      by_cases c : (sayL xs).length ≤ 400
      · rw [if_pos c, if_pos (by simp [c])]
      · rw [if_neg c, if_neg (by simp [c])])
    rw [HO.out, HL.out]
    have HE := Lib.hid (show sayL xs = sayF (strs xs) from rfl)
    rw [HE.out]
    obtain ⟨S, hS⟩ : ∃ S, S = strs xs := ⟨_, rfl⟩
    have hSl : S.length ≤ 400 := by have := strs_len xs; rw [← hS] at this; omega
    have HPos := Lib.hid (show ∀ p ∈ S, p.1 ≤ 400 from fun p hp => by rw [hS] at hp; have := strs_le xs p hp; omega)
    rw [← hS] at HS ⊢
    have HLen := Lib.hid (sayF_len S)
    obtain ⟨X, hX⟩ : ∃ X, X = sayF S := ⟨_, rfl⟩
    have HX := Lib.hid hX
    rw [← hX] at HLen ⊢
    obtain ⟨a, cap, rfl⟩ := hv.len
    obtain ⟨N, hN⟩ : ∃ N, N = xs.length := ⟨_, rfl⟩
    rw [← hN] at HI HS HV ⊢
    have hXl : X.length ≤ 800 := by have := HLen.out; omega
    clear hS hv hN hq hl h4 HO HL HE hX
    by_cases h4 : X.length ≤ 400
    all_goals
      first | rw [if_pos h4, decide_eq_true h4] | rw [if_neg h4, decide_eq_false h4]
      obtain ⟨L, hL⟩ : ∃ L, L = X.length := ⟨_, rfl⟩
      have HLX := Lib.hid hL
      rw [← hL] at h4
      first | (have h4i : ¬ (400 : Int) < (L : Int) := by omega) | (have h4i : (400 : Int) < (L : Int) := by omega)
      clear hL
      go_enter Try.func9, Try.ntmps9
      go_wp2_with (first | (go_at_call 55; refine (HI.out _ HV.out).mono ?_; rintro e w1 ⟨rfl, hb⟩; have HB := Lib.hid hb; have HV1 := Lib.hid (HV.out.keep hb); clear hb) | (go_at_call 56; refine (HS.out _ HV1.out).mono ?_; rintro e w2 ⟨u, rfl, hr, hb⟩; have HB2 := Lib.hid (Below.step HB.out HB.out.size hb); have HR := Lib.hid hr; clear hr hb; obtain ⟨a2, cap2, rfl⟩ := HR.out.len))
      go_loopw [4, 13] (fun o i wr => ∃ j : Nat, j ≤ S.length ∧ i = .int .i64 (j : Int) ∧ Rd wr w2.heap.size o (sayF (S.take j)) ∧ Below w2.heap.size w2 wr) (fun _ i _ => S.length - (intOf i).toNat)
      case atStart => exact ⟨0, Nat.zero_le _, rfl, Rd.nil _ _, Below.refl _ _⟩
      case round =>
        obtain ⟨j, hj, rfl, hr, hb2⟩ := hrel
        have HRd := Lib.hid hr
        have HB4 := Lib.hid hb2
        clear hr hb2
        by_cases hlt : j < S.length
        · obtain ⟨⟨t, x⟩, hp⟩ : ∃ p, S[j]? = some p := ⟨_, List.getElem?_eq_getElem hlt⟩
          have HN := Lib.hid (sayF_next S j t x hp)
          have HLj := Lib.hid (show (sayF (S.take j)).length ≤ 800 by rw [sayF_len, List.length_take]; omega)
          rcases HR.out.cases with ⟨_, hx⟩ | ⟨g, cap3, hv, _, _, hc⟩
          · rw [hx] at hlt; simp at hlt
          simp only [Value.slice.injEq] at hv
          obtain ⟨rfl, _, rfl⟩ := hv
          obtain ⟨cc0, cc1⟩ := hc j _ hp
          have c0 := Below.keeps_cell HB4.out cc0
          have c1 := Below.keeps_cell HB4.out cc1
          clear hc cc0 cc1 hp
          have HA2 := Lib.hid ((HB4.out.alloc HB4.out.size (.cells #[.int .i64 (t : Int), .int .i64 x] 66)))
          have HLit := Lib.hid (Rd.lit2B (wr.alloc (.cells #[.int .i64 (t : Int), .int .i64 x] 66)) w2.heap.size (t : Int) x HA2.out.size)
          go_wp2_with (at_builtin; refine wpList_appR rfl _ _ rfl w2.heap.size w2.heap.size _ _ (sayF (S.take j)) [(t : Int), x] rfl rfl ((HRd.out.alloc _).alloc _) (by have h := HLit.out; rw [World.size_alloc] at h; exact h) (by have := HLj.out; simp; omega) (by have := HB4.out.size; simp; omega) ?_; intro v1 w4 hr4 hg4 hb4; rw [← HN.out] at hr4; have HR4 := Lib.hid hr4; have HB6 := Lib.hid ((HA2.out.alloc HA2.out.size _).trans hb4); clear hr4 hg4 hb4)
          go_roundw
          case rel => exact ⟨j + 1, by omega, by go_num, HR4.out, HB6.out⟩
          case measure => simp [intOf]; omega
        · obtain rfl : j = S.length := by omega
          have HE := Lib.hid (show sayF (S.take S.length) = X by rw [List.take_of_length_le (Nat.le_refl _), HX.out])
          have hrx := HRd.out
          rw [HE.out] at hrx
          obtain ⟨a5, c5, rfl⟩ := hrx.sl.len
          have HRX := Lib.hid hrx
          rw [← HLX.out] at HRX ⊢
          clear hrx
          go_wp2
          go_ret2
          exact ⟨_, rfl, by first | exact HRX.out.mono HB2.out.size | exact Rd.nil _ _, Below.step HB2.out HB2.out.size HB4.out⟩

theorem impl_SayWord (v : Value) (xs : List Int) (B : Nat) (w : World) (h : Rd w B v xs) (hl : xs.length ≤ 1048576) :
    Calls Try.prog 9 #[v] w fun e w' => ∃ u, e = .returned (.tuple #[u, .bool (OK_SayWord xs)]) ∧ Rd w' w.heap.size u (LF_SayWord xs) ∧ Below w.heap.size w w' :=
  say_sl v xs w h.sl (by omega)

end Go.Proofs.Ytmdjmbmkgboeaaa
