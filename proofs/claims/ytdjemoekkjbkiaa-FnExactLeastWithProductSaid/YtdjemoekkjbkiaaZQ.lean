/-
  The least number with a product: the model's first list, the program's digits.
-/
import Derived.Test.YtdjemoekkjbkiaaZP
import Derived.Test.YtdjemoekkjbkiaaWY
import Derived.Test.YtdjemoekkjbkiaaWD
import Derived.Test.YtdjemoekkjbkiaaT
import Derived.Laws.Rows
import Derived.Laws.Tables
namespace Go.Proofs.Ytdjemoekkjbkiaa
open Go.RowKit
set_option linter.unusedVariables false
set_option linter.unusedSimpArgs false
set_option maxRecDepth 100000

def ntI (l : List Nat) : List Int := l.map fun (x : Nat) => (x : Int)
theorem ntI_len (l : List Nat) : (ntI l).length = l.length := by simp [ntI]
theorem ntI_cons (x : Nat) (l : List Nat) : ntI (x :: l) = [(x : Int)] ++ ntI l := rfl
theorem ntI_snoc (l : List Nat) (x : Nat) : ntI (l ++ [x]) = ntI l ++ [(x : Int)] := by simp [ntI]
theorem ntI_all {b f : Nat} {l : List Nat} (h : Dgf b f l) (hb : b ≤ 16) : ∀ x ∈ ntI l, 0 ≤ x ∧ x ≤ 1000000 := by
  intro x hx
  obtain ⟨d, hd, rfl⟩ := List.mem_map.1 hx
  have := h d hd
  omega

theorem limN_mul {x t : Nat} (hx : 1 ≤ x) (h : t ≤ 1000000000000000000 / x) : t * x ≤ 1000000000000000000 := by
  have := Nat.mul_le_mul_right x h
  have h2 := Nat.div_mul_le_self 1000000000000000000 x
  omega

theorem pwLimited_n (x p : Nat) (w : World) (hx : 2 ≤ x) (hx' : x ≤ 16) (hp : p ≤ 100) :
    Calls Try.prog 15 #[.int .i64 (x : Int), .int .i64 (p : Int)] w fun e w' => ∃ t : Nat, t ≤ 1000000000000000000 ∧ limN x p 1 = t ∧ e = .returned (.int .i64 (t : Int)) ∧ w = w' := by
  have hz : ((x : Int) == 0) = false := beq_no (by omega)
  go_enter Try.func15, Try.ntmps15
  go_wp2
  go_loop [1, 5] (fun c o => ∃ r t : Nat, r ≤ p ∧ t ≤ 1000000000000000000 ∧ limN x r t = limN x p 1 ∧ c = .int .i64 (r : Int) ∧ o = .int .i64 (t : Int)) (fun c _ => (intOf c).toNat)
  case atStart => exact ⟨p, 1, Nat.le_refl _, by omega, rfl, rfl, rfl⟩
  case round =>
    obtain ⟨r, t, hr, ht, hl, rfl, rfl⟩ := hrel
    have HL := Lib.hid hl
    clear hl
    by_cases hlt : 0 < r
    · obtain ⟨q, hq⟩ : ∃ q, q + 1 = r := ⟨r - 1, by omega⟩
      subst hq
      obtain ⟨d, hd⟩ : ∃ d : Nat, d = 1000000000000000000 / x := ⟨_, rfl⟩
      have hdi : (1000000000000000000 : Int) / (x : Int) = (d : Int) := by rw [hd]; rfl
      have hd9 : d ≤ 1000000000000000000 := by rw [hd]; exact Nat.div_le_self _ _
      have HD := Lib.hid hd
      clear hd
      by_cases hgt : d < t
      · have HE := Lib.hid (show limN x p 1 = 1000000000000000000 by rw [← HL.out, limN_step, ← HD.out, if_pos hgt])
        have hgi : (d : Int) < (t : Int) := by omega
        go_wp2
        go_ret
        exact ⟨1000000000000000000, by omega, HE.out, rfl, rfl⟩
      · have hgi : ¬ (d : Int) < (t : Int) := by omega
        have HS := Lib.hid (show limN x q (t * x) = limN x p 1 by rw [← HL.out, limN_step, ← HD.out, if_neg hgt])
        have hb := limN_mul (x := x) (t := t) (by omega) (by rw [← HD.out]; omega)
        obtain ⟨s, hs⟩ : ∃ s, s = t * x := ⟨_, rfl⟩
        have hts : (t : Int) * (x : Int) = (s : Int) := by rw [hs]; push_cast; rfl
        rw [← hs] at hb HS
        clear hs
        go_wp2
        go_round
        case rel => exact ⟨q, s, by omega, hb, HS.out, by go_num, by first | rfl | rw [hts]⟩
        case measure => (simp [intOf]; try omega)
    · obtain rfl : r = 0 := by omega
      have HE := Lib.hid (show limN x p 1 = t by rw [← HL.out]; rfl)
      go_wp2
      go_ret
      exact ⟨t, ht, HE.out, rfl, rfl⟩

theorem spK_no {b m p k d : Nat} {R : Nat → Nat → List Nat} (h : p % d ≠ 0) : spK b m R p (k + 1) d = spK b m R p k (d + 1) := by rw [spK, if_pos (.inl h)]
theorem spK_up {b m p k d : Nat} {R : Nat → Nat → List Nat} (h : limN (b - 1) m 1 < p / d) : spK b m R p (k + 1) d = spK b m R p k (d + 1) := by rw [spK, if_pos (.inr h)]
theorem spK_lo {b m p k d : Nat} {R : Nat → Nat → List Nat} (h0 : p % d = 0) (h1 : ¬ limN (b - 1) m 1 < p / d) (h : p / d < limN d m 1) : spK b m R p (k + 1) d = [] := by rw [spK, if_neg (by omega), if_pos h]
theorem spK_empty {b m p k d : Nat} {R : Nat → Nat → List Nat} (h0 : p % d = 0) (h1 : ¬ limN (b - 1) m 1 < p / d) (h : ¬ p / d < limN d m 1) (h2 : R d (p / d) = []) : spK b m R p (k + 1) d = spK b m R p k (d + 1) := by
  rw [spK, if_neg (by omega), if_neg h, h2, List.length_nil, if_pos rfl]
theorem spK_hit {b m p k d : Nat} {R : Nat → Nat → List Nat} (h0 : p % d = 0) (h1 : ¬ limN (b - 1) m 1 < p / d) (h : ¬ p / d < limN d m 1) (h2 : R d (p / d) ≠ []) : spK b m R p (k + 1) d = d :: R d (p / d) := by
  rw [spK, if_neg (by omega), if_neg h, if_neg (fun e => h2 (List.eq_nil_of_length_eq_zero e))]
theorem spF_one_yes {b f p : Nat} (h : f ≤ p ∧ p ≤ b - 1) : spF b 0 f p = [p] := by rw [spF, if_pos h]
theorem spF_one_no {b f p : Nat} (h : ¬ (f ≤ p ∧ p ≤ b - 1)) : spF b 0 f p = [] := by rw [spF, if_neg h]

theorem rd_shape9 {w : World} {B : Nat} {v : Value} {xs : List Int} (h : Rd w B v xs) : ∃ a cap, v = .slice a xs.length cap := by
  rcases h.cases with ⟨rfl, rfl⟩ | ⟨g, cap, hu, _⟩
  · exact ⟨none, 0, rfl⟩
  · exact ⟨_, cap, hu⟩

set_option maxHeartbeats 1000000 in
theorem prSpell_any (b : Nat) (hb : 2 ≤ b) (hb' : b ≤ 16) : ∀ (n f p : Nat) (w : World), n ≤ 39 → 2 ≤ f → f ≤ 16 → 1 ≤ p → p ≤ 1000000000000 →
    Calls Try.prog 8 #[.int .i64 (p : Int), .int .i64 (f : Int), .int .i64 ((n : Int) + 1), .int .i64 (b : Int)] w fun e w' => ∃ v, e = .returned v ∧ Rd w' w.heap.size v (ntI (spF b n f p)) ∧ Below w.heap.size w w' := by
  intro n
  induction n with
  | zero =>
    intro f p w hn hf hf' hp hp'
    by_cases hin : f ≤ p ∧ p ≤ b - 1
    · have HS := Lib.hid (spF_one_yes hin)
      rw [HS.out]
      have h1 : (f : Int) ≤ (p : Int) := by omega
      have h2 : (p : Int) ≤ (b : Int) - 1 := by omega
      have hone : ((0 : Int) + 1 == 1) = true := rfl
      clear hin
      go_enter Try.func8, Try.ntmps8
      go_wp2_with (go_at_call 14; refine (l1In_yes _ _ _ _ h1 h2).mono ?_; rintro e w1 ⟨rfl, rfl⟩)
      go_ret
      exact ⟨_, rfl, Rd.litB _ _ _ (Nat.le_refl _), (Below.refl _ _).alloc (Nat.le_refl _) _⟩
    · have HS := Lib.hid (spF_one_no hin)
      rw [HS.out]
      have h1 : (p : Int) < (f : Int) ∨ (b : Int) - 1 < (p : Int) := by omega
      have hone : ((0 : Int) + 1 == 1) = true := rfl
      clear hin
      go_enter Try.func8, Try.ntmps8
      go_wp2_with (go_at_call 14; refine (l1In_no _ _ _ _ h1).mono ?_; rintro e w1 ⟨rfl, rfl⟩)
      go_ret
      exact ⟨_, rfl, Rd.nil _ _, Below.refl _ _⟩
  | succ n ih =>
    intro f p w hn hf hf' hp hp'
    have IH := Lib.hid ih
    obtain ⟨X, hX⟩ : ∃ X, X = spF b (n + 1) f p := ⟨_, rfl⟩
    have HX := Lib.hid (show spK b (n + 1) (spF b n) p (b - f) f = X by rw [hX]; rfl)
    rw [← hX]
    have hleft : (((n + 1 : Nat) : Int) + 1 == 1) = false := beq_no (by omega)
    have HNI := Lib.hid (show (((n + 1 : Nat) : Int) + 1 - 1) = ((n + 1 : Nat) : Int) by omega)
    have hni : (((n + 1 : Nat) : Int)) = (n : Int) + 1 := by omega
    rw [hni] at hleft ⊢
    clear hX ih hni
    go_enter Try.func8, Try.ntmps8
    go_wp2
    go_loopw [9] (fun i wr => ∃ d : Nat, i = .int .i64 (d : Int) ∧ 2 ≤ d ∧ d ≤ 16 ∧ Hid (spK b (n + 1) (spF b n) p (b - d) d = X) ∧ Below w.heap.size w wr) (fun i _ => (16 - intOf i).toNat)
    case atStart => exact ⟨f, rfl, hf, hf', Lib.hid HX.out, Below.refl _ _⟩
    case round =>
      obtain ⟨d, rfl, hd, hd', HE, hbl⟩ := hrel
      have HB := Lib.hid hbl
      clear hbl
      by_cases hlt : d < b
      · have HK := Lib.hid (show b - d = (b - (d + 1)) + 1 by omega)
        rw [HK.out] at HE
        obtain ⟨q, hq⟩ : ∃ q : Nat, q = p / d := ⟨_, rfl⟩
        obtain ⟨r, hr⟩ : ∃ r : Nat, r = p % d := ⟨_, rfl⟩
        have hqi : Int.tdiv (p : Int) (d : Int) = (q : Int) := by rw [Int.tdiv_eq_ediv_of_nonneg (by omega), hq]; exact (Int.natCast_ediv p d).symm
        have hqe : (p : Int) / (d : Int) = (q : Int) := by rw [hq]; exact (Int.natCast_ediv p d).symm
        have hri : (p : Int) % (d : Int) = (r : Int) := by rw [hr]; exact (Int.natCast_emod p d).symm
        have hqp : q ≤ p := by rw [hq]; exact Nat.div_le_self _ _
        have hd0 : ((d : Int) == 0) = false := beq_no (by omega)
        have hdz : ¬ (d : Int) = 0 := by omega
        have HQ := Lib.hid hq
        have HR := Lib.hid hr
        have hdi : (d : Int) < (b : Int) := by omega
        by_cases hr0 : r = 0
        · have hrne : ((r : Int) != 0) = false := bne_no (by omega)
          have HM := Lib.hid (show p % d = 0 by rw [← hr]; exact hr0)
          have hq1 : 1 ≤ q := by rw [hq]; exact Nat.div_pos (Nat.le_of_dvd (by omega) (Nat.dvd_of_mod_eq_zero HM.out)) (by omega)
          have HPU := Lib.hid (show ∀ w' : World, Calls Try.prog 15 #[.int .i64 ((b : Int) - 1), .int .i64 ((n : Int) + 1)] w' (fun e w'' => ∃ t : Nat, t ≤ 1000000000000000000 ∧ limN (b - 1) (n + 1) 1 = t ∧ e = .returned (.int .i64 (t : Int)) ∧ w' = w'') from fun w' => by
            have h := pwLimited_n (b - 1) (n + 1) w' (by omega) (by omega) (by omega)
            rw [show (((b - 1 : Nat)) : Int) = (b : Int) - 1 by omega, show (((n + 1 : Nat)) : Int) = (n : Int) + 1 by omega] at h
            exact h)
          have HPL := Lib.hid (show ∀ w' : World, Calls Try.prog 15 #[.int .i64 (d : Int), .int .i64 ((n : Int) + 1)] w' (fun e w'' => ∃ t : Nat, t ≤ 1000000000000000000 ∧ limN d (n + 1) 1 = t ∧ e = .returned (.int .i64 (t : Int)) ∧ w' = w'') from fun w' => by
            have h := pwLimited_n d (n + 1) w' (by omega) (by omega) (by omega)
            rw [show (((n + 1 : Nat)) : Int) = (n : Int) + 1 by omega] at h
            exact h)
          have hn1 : (n : Int) + 1 + 1 - 1 = (n : Int) + 1 := by omega
          clear hq hr
          go_wp2_with fail
          refine (HPU.out _).mono ?_
          rintro e w1 ⟨tu, htu, hlu, rfl, rfl⟩
          have HLU := Lib.hid hlu
          clear hlu
          by_cases hup : tu < q
          · have HNX := Lib.hid (show spK b (n + 1) (spF b n) p (b - (d + 1)) (d + 1) = X by rw [← HE.out, spK_up (by rw [HLU.out, ← HQ.out]; exact hup)])
            have hdu : decide ((tu : Int) < (q : Int)) = true := decide_eq_true (by omega)
            go_wp2_with fail
            go_roundw
            case rel => exact ⟨d + 1, by go_num, by omega, by omega, HNX, HB.out⟩
            case measure => simp [intOf]; omega
          · have hdu : decide ((tu : Int) < (q : Int)) = false := decide_eq_false (by omega)
            have HUP := Lib.hid (show ¬ limN (b - 1) (n + 1) 1 < p / d by rw [HLU.out, ← HQ.out]; exact hup)
            go_wp2_with fail
            refine (HPL.out _).mono ?_
            rintro e w1 ⟨tl, htl, hll, rfl, rfl⟩
            have HLL := Lib.hid hll
            clear hll
            by_cases hlo : q < tl
            · have HNX := Lib.hid (show X = [] by rw [← HE.out, spK_lo HM.out HUP.out (by rw [HLL.out, ← HQ.out]; exact hlo)])
              have hdl : decide ((q : Int) < (tl : Int)) = true := decide_eq_true (by omega)
              go_wp2_with fail
              go_ret
              exact ⟨_, rfl, by rw [HNX.out]; exact Rd.nil _ _, HB.out⟩
            · have hdl : decide ((q : Int) < (tl : Int)) = false := decide_eq_false (by omega)
              have HLO := Lib.hid (show ¬ p / d < limN d (n + 1) 1 by rw [HLL.out, ← HQ.out]; exact hlo)
              have HI := Lib.hid (fun w' => IH.out d q w' (by omega) hd hd' hq1 (by omega))
              go_wp2_with fail
              refine (HI.out _).mono ?_
              rintro e w1 ⟨v, rfl, hrv, hbv⟩
              have HRV := Lib.hid hrv
              have HBV := Lib.hid (Below.step HB.out HB.out.size hbv)
              obtain ⟨a5, c5, rfl⟩ := rd_shape9 hrv
              obtain ⟨Y, hY⟩ : ∃ Y, Y = spF b n d q := ⟨_, rfl⟩
              have HY := Lib.hid (show spF b n d (p / d) = Y by rw [← HQ.out, hY])
              rw [← hY] at HRV
              rw [← hY, ntI_len]
              rw [ntI_len] at HRV
              clear hrv hbv hY
              by_cases he : Y = []
              · have hl0 : Y.length = 0 := by rw [he]; rfl
                have HNX := Lib.hid (show spK b (n + 1) (spF b n) p (b - (d + 1)) (d + 1) = X by rw [← HE.out, spK_empty HM.out HUP.out HLO.out (by rw [HY.out]; exact he)])
                clear he
                go_wp2_with fail
                go_roundw
                case rel => exact ⟨d + 1, by go_num, by omega, by omega, HNX, HBV.out⟩
                case measure => simp [intOf]; omega
              · have hl0 : 0 < Y.length := List.length_pos_iff.2 he
                have hl1 : (0 : Int) < (Y.length : Int) := by omega
                have HNX := Lib.hid (show X = d :: Y by rw [← HE.out, spK_hit HM.out HUP.out HLO.out (by rw [HY.out]; exact he), HY.out])
                have hy40 : Y.length ≤ 40 := by
                  have h := spF_sound hb n d (p / d) hd (by rw [HY.out]; exact he)
                  rw [HY.out] at h
                  omega
                have HYL := Lib.hid hy40
                have hsz := HBV.out.size
                clear he hy40
                go_wp2_with (at_builtin; refine wpList_appR rfl _ _ rfl w.heap.size wr.heap.size _ _ [(d : Int)] (ntI Y) rfl rfl (Rd.litB _ _ _ hsz) (HRV.out.alloc _) (by have := HYL.out; rw [ntI_len]; simp; omega) (by simp; omega) ?_; intro v1 w2 hr1 hg1 hb2; have HR2 := Lib.hid hr1; have HB2 := Lib.hid ((HBV.out.alloc hsz _).trans hb2); clear hr1 hg1 hb2)
                go_ret
                exact ⟨_, rfl, by rw [HNX.out, ntI_cons]; exact HR2.out, HB2.out⟩
        · have hrne : ((r : Int) != 0) = true := bne_yes (by omega)
          have HNX := Lib.hid (show spK b (n + 1) (spF b n) p (b - (d + 1)) (d + 1) = X by rw [← HE.out, spK_no (by rw [← hr]; exact hr0)])
          clear hq hr
          go_wp2_with fail
          go_roundw
          case rel => exact ⟨d + 1, by go_num, by omega, by omega, HNX, HB.out⟩
          case measure => simp [intOf]; omega
      · have HNX := Lib.hid (show X = [] by rw [← HE.out, show b - d = 0 by omega]; rfl)
        have hdi : ¬ (d : Int) < (b : Int) := by omega
        go_wp2
        go_ret
        exact ⟨_, rfl, by rw [HNX.out]; exact Rd.nil _ _, HB.out⟩

end Go.Proofs.Ytdjemoekkjbkiaa
