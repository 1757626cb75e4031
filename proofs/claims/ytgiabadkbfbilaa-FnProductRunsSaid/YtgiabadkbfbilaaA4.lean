/-
  Joint text of ZQ ZR ZT (written by wip/tools/merge.py).
-/
import Derived.Test.YtgiabadkbfbilaaZP
import Derived.Test.YtgiabadkbfbilaaA2
import Derived.Test.YtgiabadkbfbilaaA7
import Derived.Test.YtgiabadkbfbilaaT
import Derived.Laws.Rows
import Derived.Laws.Tables
import Derived.Test.YtgiabadkbfbilaaK
/- from XZQ -/
namespace Go.Proofs.Ytgiabadkbfbilaa
open Go.RowKit
set_option linter.unusedVariables false
set_option linter.unusedSimpArgs false
set_option maxRecDepth 100000

def ntI (l : List Nat) : List Int := l.map fun (x : Nat) => (x : Int)
theorem ntI_len (l : List Nat) : (ntI l).length = l.length := by simp [ntI]
theorem ntI_cons (x : Nat) (l : List Nat) : ntI (x :: l) = [(x : Int)] ++ ntI l := rfl
theorem ntI_snoc (l : List Nat) (x : Nat) : ntI (l ++ [x]) = ntI l ++ [(x : Int)] := by simp [ntI]
theorem ntI_all {b f : Nat} {l : List Nat} (h : Dgf b f l) (hb : b ≤ 16) : ∀ x ∈ ntI l, 0 ≤ x ∧ x ≤ 1000000 := by
  intro x hx
  obtain ⟨d, hd, rfl⟩ := List.mem_map.1 hx
  have := h d hd
  omega

theorem limN_mul {x t : Nat} (hx : 1 ≤ x) (h : t ≤ 1000000000000000000 / x) : t * x ≤ 1000000000000000000 := by
  have := Nat.mul_le_mul_right x h
  have h2 := Nat.div_mul_le_self 1000000000000000000 x
  omega

theorem pwLimited_n (x p : Nat) (w : World) (hx : 2 ≤ x) (hx' : x ≤ 16) (hp : p ≤ 100) :
    Calls Try.prog 151 #[.int .i64 (x : Int), .int .i64 (p : Int)] w fun e w' => ∃ t : Nat, t ≤ 1000000000000000000 ∧ limN x p 1 = t ∧ e = .returned (.int .i64 (t : Int)) ∧ w = w' := by
  have hz : ((x : Int) == 0) = false := beq_no (by omega)
  go_enter Try.func151, Try.ntmps151
  go_wp2
  go_loop [1, 5] (fun c o => ∃ r t : Nat, r ≤ p ∧ t ≤ 1000000000000000000 ∧ limN x r t = limN x p 1 ∧ c = .int .i64 (r : Int) ∧ o = .int .i64 (t : Int)) (fun c _ => (intOf c).toNat)
  case atStart => exact ⟨p, 1, Nat.le_refl _, by omega, rfl, rfl, rfl⟩
  case round =>
    obtain ⟨r, t, hr, ht, hl, rfl, rfl⟩ := hrel
    have HL := Lib.hid hl
    clear hl
    by_cases hlt : 0 < r
    · obtain ⟨q, hq⟩ : ∃ q, q + 1 = r := ⟨r - 1, by omega⟩
      subst hq
      obtain ⟨d, hd⟩ : ∃ d : Nat, d = 1000000000000000000 / x := ⟨_, rfl⟩
      have hdi : (1000000000000000000 : Int) / (x : Int) = (d : Int) := by rw [hd]; rfl
      have hd9 : d ≤ 1000000000000000000 := by rw [hd]; exact Nat.div_le_self _ _
      have HD := Lib.hid hd
      clear hd
      by_cases hgt : d < t
      · have HE := Lib.hid (show limN x p 1 = 1000000000000000000 by rw [← HL.out, limN_step, ← HD.out, if_pos hgt])
        have hgi : (d : Int) < (t : Int) := by omega
        go_wp2
        go_ret
        exact ⟨1000000000000000000, by omega, HE.out, rfl, rfl⟩
      · have hgi : ¬ (d : Int) < (t : Int) := by omega
        have HS := Lib.hid (show limN x q (t * x) = limN x p 1 by rw [← HL.out, limN_step, ← HD.out, if_neg hgt])
        have hb := limN_mul (x := x) (t := t) (by omega) (by rw [← HD.out]; omega)
        obtain ⟨s, hs⟩ : ∃ s, s = t * x := ⟨_, rfl⟩
        have hts : (t : Int) * (x : Int) = (s : Int) := by rw [hs]; push_cast; rfl
        rw [← hs] at hb HS
        clear hs
        go_wp2
        go_round
        case rel => exact ⟨q, s, by omega, hb, HS.out, by go_num, by first | rfl | rw [hts]⟩
        case measure => (simp [intOf]; try omega)
    · obtain rfl : r = 0 := by omega
      have HE := Lib.hid (show limN x p 1 = t by rw [← HL.out]; rfl)
      go_wp2
      go_ret
      exact ⟨t, ht, HE.out, rfl, rfl⟩

theorem spK_no {b m p k d : Nat} {R : Nat → Nat → List Nat} (h : p % d ≠ 0) : spK b m R p (k + 1) d = spK b m R p k (d + 1) := by rw [spK, if_pos (.inl h)]
theorem spK_up {b m p k d : Nat} {R : Nat → Nat → List Nat} (h : limN (b - 1) m 1 < p / d) : spK b m R p (k + 1) d = spK b m R p k (d + 1) := by rw [spK, if_pos (.inr h)]
theorem spK_lo {b m p k d : Nat} {R : Nat → Nat → List Nat} (h0 : p % d = 0) (h1 : ¬ limN (b - 1) m 1 < p / d) (h : p / d < limN d m 1) : spK b m R p (k + 1) d = [] := by rw [spK, if_neg (by omega), if_pos h]
theorem spK_empty {b m p k d : Nat} {R : Nat → Nat → List Nat} (h0 : p % d = 0) (h1 : ¬ limN (b - 1) m 1 < p / d) (h : ¬ p / d < limN d m 1) (h2 : R d (p / d) = []) : spK b m R p (k + 1) d = spK b m R p k (d + 1) := by
  rw [spK, if_neg (by omega), if_neg h, h2, List.length_nil, if_pos rfl]
theorem spK_hit {b m p k d : Nat} {R : Nat → Nat → List Nat} (h0 : p % d = 0) (h1 : ¬ limN (b - 1) m 1 < p / d) (h : ¬ p / d < limN d m 1) (h2 : R d (p / d) ≠ []) : spK b m R p (k + 1) d = d :: R d (p / d) := by
  rw [spK, if_neg (by omega), if_neg h, if_neg (fun e => h2 (List.eq_nil_of_length_eq_zero e))]
theorem spF_one_yes {b f p : Nat} (h : f ≤ p ∧ p ≤ b - 1) : spF b 0 f p = [p] := by rw [spF, if_pos h]
theorem spF_one_no {b f p : Nat} (h : ¬ (f ≤ p ∧ p ≤ b - 1)) : spF b 0 f p = [] := by rw [spF, if_neg h]

theorem rd_shape9 {w : World} {B : Nat} {v : Value} {xs : List Int} (h : Rd w B v xs) : ∃ a cap, v = .slice a xs.length cap := by
  rcases h.cases with ⟨rfl, rfl⟩ | ⟨g, cap, hu, _⟩
  · exact ⟨none, 0, rfl⟩
  · exact ⟨_, cap, hu⟩

set_option maxHeartbeats 1000000 in
theorem prSpell_any (b : Nat) (hb : 2 ≤ b) (hb' : b ≤ 16) : ∀ (n f p : Nat) (w : World), n ≤ 39 → 2 ≤ f → f ≤ 16 → 1 ≤ p → p ≤ 1000000000000 →
    Calls Try.prog 104 #[.int .i64 (p : Int), .int .i64 (f : Int), .int .i64 ((n : Int) + 1), .int .i64 (b : Int)] w fun e w' => ∃ v, e = .returned v ∧ Rd w' w.heap.size v (ntI (spF b n f p)) ∧ Below w.heap.size w w' := by
  intro n
  induction n with
  | zero =>
    intro f p w hn hf hf' hp hp'
    by_cases hin : f ≤ p ∧ p ≤ b - 1
    · have HS := Lib.hid (spF_one_yes hin)
      rw [HS.out]
      have h1 : (f : Int) ≤ (p : Int) := by omega
      have h2 : (p : Int) ≤ (b : Int) - 1 := by omega
      have hone : ((0 : Int) + 1 == 1) = true := rfl
      clear hin
      go_enter Try.func104, Try.ntmps104
      go_wp2_with (go_at_call 79; refine (l1In_yes _ _ _ _ h1 h2).mono ?_; rintro e w1 ⟨rfl, rfl⟩)
      go_ret
      exact ⟨_, rfl, Rd.litB _ _ _ (Nat.le_refl _), (Below.refl _ _).alloc (Nat.le_refl _) _⟩
    · have HS := Lib.hid (spF_one_no hin)
      rw [HS.out]
      have h1 : (p : Int) < (f : Int) ∨ (b : Int) - 1 < (p : Int) := by omega
      have hone : ((0 : Int) + 1 == 1) = true := rfl
      clear hin
      go_enter Try.func104, Try.ntmps104
      go_wp2_with (go_at_call 79; refine (l1In_no _ _ _ _ h1).mono ?_; rintro e w1 ⟨rfl, rfl⟩)
      go_ret
      exact ⟨_, rfl, Rd.nil _ _, Below.refl _ _⟩
  | succ n ih =>
    intro f p w hn hf hf' hp hp'
    have IH := Lib.hid ih
    obtain ⟨X, hX⟩ : ∃ X, X = spF b (n + 1) f p := ⟨_, rfl⟩
    have HX := Lib.hid (show spK b (n + 1) (spF b n) p (b - f) f = X by rw [hX]; rfl)
    rw [← hX]
    have hleft : (((n + 1 : Nat) : Int) + 1 == 1) = false := beq_no (by omega)
    have HNI := Lib.hid (show (((n + 1 : Nat) : Int) + 1 - 1) = ((n + 1 : Nat) : Int) by omega)
    have hni : (((n + 1 : Nat) : Int)) = (n : Int) + 1 := by omega
    rw [hni] at hleft ⊢
    clear hX ih hni
    go_enter Try.func104, Try.ntmps104
    go_wp2
    go_loopw [9] (fun i wr => ∃ d : Nat, i = .int .i64 (d : Int) ∧ 2 ≤ d ∧ d ≤ 16 ∧ Hid (spK b (n + 1) (spF b n) p (b - d) d = X) ∧ Below w.heap.size w wr) (fun i _ => (16 - intOf i).toNat)
    case atStart => exact ⟨f, rfl, hf, hf', Lib.hid HX.out, Below.refl _ _⟩
    case round =>
      obtain ⟨d, rfl, hd, hd', HE, hbl⟩ := hrel
      have HB := Lib.hid hbl
      clear hbl
      by_cases hlt : d < b
      · have HK := Lib.hid (show b - d = (b - (d + 1)) + 1 by omega)
        rw [HK.out] at HE
        obtain ⟨q, hq⟩ : ∃ q : Nat, q = p / d := ⟨_, rfl⟩
        obtain ⟨r, hr⟩ : ∃ r : Nat, r = p % d := ⟨_, rfl⟩
        have hqi : Int.tdiv (p : Int) (d : Int) = (q : Int) := by rw [Int.tdiv_eq_ediv_of_nonneg (by omega), hq]; exact (Int.natCast_ediv p d).symm
        have hqe : (p : Int) / (d : Int) = (q : Int) := by rw [hq]; exact (Int.natCast_ediv p d).symm
        have hri : (p : Int) % (d : Int) = (r : Int) := by rw [hr]; exact (Int.natCast_emod p d).symm
        have hqp : q ≤ p := by rw [hq]; exact Nat.div_le_self _ _
        have hd0 : ((d : Int) == 0) = false := beq_no (by omega)
        have hdz : ¬ (d : Int) = 0 := by omega
        have HQ := Lib.hid hq
        have HR := Lib.hid hr
        have hdi : (d : Int) < (b : Int) := by omega
        by_cases hr0 : r = 0
        · have hrne : ((r : Int) != 0) = false := bne_no (by omega)
          have HM := Lib.hid (show p % d = 0 by rw [← hr]; exact hr0)
          have hq1 : 1 ≤ q := by rw [hq]; exact Nat.div_pos (Nat.le_of_dvd (by omega) (Nat.dvd_of_mod_eq_zero HM.out)) (by omega)
          have HPU := Lib.hid (show ∀ w' : World, Calls Try.prog 151 #[.int .i64 ((b : Int) - 1), .int .i64 ((n : Int) + 1)] w' (fun e w'' => ∃ t : Nat, t ≤ 1000000000000000000 ∧ limN (b - 1) (n + 1) 1 = t ∧ e = .returned (.int .i64 (t : Int)) ∧ w' = w'') from fun w' => by
            have h := pwLimited_n (b - 1) (n + 1) w' (by omega) (by omega) (by omega)
            rw [show (((b - 1 : Nat)) : Int) = (b : Int) - 1 by omega, show (((n + 1 : Nat)) : Int) = (n : Int) + 1 by omega] at h
            exact h)
          have HPL := Lib.hid (show ∀ w' : World, Calls Try.prog 151 #[.int .i64 (d : Int), .int .i64 ((n : Int) + 1)] w' (fun e w'' => ∃ t : Nat, t ≤ 1000000000000000000 ∧ limN d (n + 1) 1 = t ∧ e = .returned (.int .i64 (t : Int)) ∧ w' = w'') from fun w' => by
            have h := pwLimited_n d (n + 1) w' (by omega) (by omega) (by omega)
            rw [show (((n + 1 : Nat)) : Int) = (n : Int) + 1 by omega] at h
            exact h)
          have hn1 : (n : Int) + 1 + 1 - 1 = (n : Int) + 1 := by omega
          clear hq hr
          go_wp2_with fail
          refine (HPU.out _).mono ?_
          rintro e w1 ⟨tu, htu, hlu, rfl, rfl⟩
          have HLU := Lib.hid hlu
          clear hlu
          by_cases hup : tu < q
          · have HNX := Lib.hid (show spK b (n + 1) (spF b n) p (b - (d + 1)) (d + 1) = X by rw [← HE.out, spK_up (by rw [HLU.out, ← HQ.out]; exact hup)])
            have hdu : decide ((tu : Int) < (q : Int)) = true := decide_eq_true (by omega)
            go_wp2_with fail
            go_roundw
            case rel => exact ⟨d + 1, by go_num, by omega, by omega, HNX, HB.out⟩
            case measure => simp [intOf]; omega
          · have hdu : decide ((tu : Int) < (q : Int)) = false := decide_eq_false (by omega)
            have HUP := Lib.hid (show ¬ limN (b - 1) (n + 1) 1 < p / d by rw [HLU.out, ← HQ.out]; exact hup)
            go_wp2_with fail
            refine (HPL.out _).mono ?_
            rintro e w1 ⟨tl, htl, hll, rfl, rfl⟩
            have HLL := Lib.hid hll
            clear hll
            by_cases hlo : q < tl
            · have HNX := Lib.hid (show X = [] by rw [← HE.out, spK_lo HM.out HUP.out (by rw [HLL.out, ← HQ.out]; exact hlo)])
              have hdl : decide ((q : Int) < (tl : Int)) = true := decide_eq_true (by omega)
              go_wp2_with fail
              go_ret
              exact ⟨_, rfl, by rw [HNX.out]; exact Rd.nil _ _, HB.out⟩
            · have hdl : decide ((q : Int) < (tl : Int)) = false := decide_eq_false (by omega)
              have HLO := Lib.hid (show ¬ p / d < limN d (n + 1) 1 by rw [HLL.out, ← HQ.out]; exact hlo)
              have HI := Lib.hid (fun w' => IH.out d q w' (by omega) hd hd' hq1 (by omega))
              go_wp2_with fail
              refine (HI.out _).mono ?_
              rintro e w1 ⟨v, rfl, hrv, hbv⟩
              have HRV := Lib.hid hrv
              have HBV := Lib.hid (Below.step HB.out HB.out.size hbv)
              obtain ⟨a5, c5, rfl⟩ := rd_shape9 hrv
              obtain ⟨Y, hY⟩ : ∃ Y, Y = spF b n d q := ⟨_, rfl⟩
              have HY := Lib.hid (show spF b n d (p / d) = Y by rw [← HQ.out, hY])
              rw [← hY] at HRV
              rw [← hY, ntI_len]
              rw [ntI_len] at HRV
              clear hrv hbv hY
              by_cases he : Y = []
              · have hl0 : Y.length = 0 := by rw [he]; rfl
                have HNX := Lib.hid (show spK b (n + 1) (spF b n) p (b - (d + 1)) (d + 1) = X by rw [← HE.out, spK_empty HM.out HUP.out HLO.out (by rw [HY.out]; exact he)])
                clear he
                go_wp2_with fail
                go_roundw
                case rel => exact ⟨d + 1, by go_num, by omega, by omega, HNX, HBV.out⟩
                case measure => simp [intOf]; omega
              · have hl0 : 0 < Y.length := List.length_pos_iff.2 he
                have hl1 : (0 : Int) < (Y.length : Int) := by omega
                have HNX := Lib.hid (show X = d :: Y by rw [← HE.out, spK_hit HM.out HUP.out HLO.out (by rw [HY.out]; exact he), HY.out])
                have hy40 : Y.length ≤ 40 := by
                  have h := spF_sound hb n d (p / d) hd (by rw [HY.out]; exact he)
                  rw [HY.out] at h
                  omega
                have HYL := Lib.hid hy40
                have hsz := HBV.out.size
                clear he hy40
                go_wp2_with (at_builtin; refine wpList_appR rfl _ _ rfl w.heap.size wr.heap.size _ _ [(d : Int)] (ntI Y) rfl rfl (Rd.litB _ _ _ hsz) (HRV.out.alloc _) (by have := HYL.out; rw [ntI_len]; simp; omega) (by simp; omega) ?_; intro v1 w2 hr1 hg1 hb2; have HR2 := Lib.hid hr1; have HB2 := Lib.hid ((HBV.out.alloc hsz _).trans hb2); clear hr1 hg1 hb2)
                go_ret
                exact ⟨_, rfl, by rw [HNX.out, ntI_cons]; exact HR2.out, HB2.out⟩
        · have hrne : ((r : Int) != 0) = true := bne_yes (by omega)
          have HNX := Lib.hid (show spK b (n + 1) (spF b n) p (b - (d + 1)) (d + 1) = X by rw [← HE.out, spK_no (by rw [← hr]; exact hr0)])
          clear hq hr
          go_wp2_with fail
          go_roundw
          case rel => exact ⟨d + 1, by go_num, by omega, by omega, HNX, HB.out⟩
          case measure => simp [intOf]; omega
      · have HNX := Lib.hid (show X = [] by rw [← HE.out, show b - d = 0 by omega]; rfl)
        have hdi : ¬ (d : Int) < (b : Int) := by omega
        go_wp2
        go_ret
        exact ⟨_, rfl, by rw [HNX.out]; exact Rd.nil _ _, HB.out⟩

end Go.Proofs.Ytgiabadkbfbilaa

/- from XZR -/
namespace Go.Proofs.Ytgiabadkbfbilaa
open Go.RowKit
set_option linter.unusedVariables false
set_option linter.unusedSimpArgs false
set_option maxRecDepth 100000

/-- The program's answer for a product of at least 1. -/
def lwp (b p : Nat) : Option Int := if p = 1 then some 1 else if ct b p = 0 then none else numF (b : Int) (ntI (gr b p)) 0
theorem lwp_one (b : Nat) : lwp b 1 = some 1 := if_pos rfl
theorem lwp_none {b p : Nat} (h : ¬ p = 1) (hc : ct b p = 0) : lwp b p = none := by rw [lwp, if_neg h, if_pos hc]
theorem lwp_some {b p : Nat} (h : ¬ p = 1) (hc : ct b p ≠ 0) : lwp b p = numF (b : Int) (ntI (gr b p)) 0 := by rw [lwp, if_neg h, if_neg hc]

/-- Where the program's digits stand. -/
def Dig (b p q : Nat) (pre : List Nat) : Prop := (ct b p = 0 ∧ q = p ∧ pre = []) ∨ (ct b p ≠ 0 ∧ ct b q ≠ 0 ∧ pre ++ gr b q = gr b p)
theorem Rd.lit2 (w : World) (o : Obj) (q : Int) (B : Nat) (hB : B ≤ w.heap.size + 1) : Rd ((w.alloc o).alloc (.cells #[.int .i64 q] 3)) B (.slice (some ⟨w.heap.size + 1, 0, none⟩) 1 1) [q] := by
  have h := Rd.litB (w.alloc o) B q (by simpa using hB)
  rw [show (w.alloc o).heap.size = w.heap.size + 1 by simp] at h
  exact h
theorem Dig.start (b p : Nat) : Dig b p p [] := by
  by_cases h : ct b p = 0
  · exact .inl ⟨h, rfl, rfl⟩
  · exact .inr ⟨h, h, rfl⟩
theorem Dig.dead {b p q : Nat} {pre : List Nat} (h : Dig b p q pre) (hc : ct b q = 0) : ct b p = 0 := by
  rcases h with ⟨h1, _⟩ | ⟨_, h2, _⟩
  · exact h1
  · exact absurd hc h2
theorem Dig.next {b p q : Nat} {pre : List Nat} (h : Dig b p q pre) (hq : 2 ≤ q) (hc : ct b q ≠ 0) : Dig b p (q / (mf b q).2) (pre ++ [(mf b q).2]) := by
  obtain ⟨_, _, _, h4, _, _⟩ := mf_spec hq hc
  rcases h with ⟨h1, rfl, rfl⟩ | ⟨h1, h2, h3⟩
  · exact absurd h1 hc
  · refine .inr ⟨h1, h4, ?_⟩
    rw [← h3, gr_step hq hc, List.append_assoc]; rfl
theorem Dig.done {b p : Nat} {pre : List Nat} (h : Dig b p 1 pre) (hp : ¬ p = 1) : ct b p ≠ 0 ∧ pre = gr b p := by
  rcases h with ⟨_, h2, _⟩ | ⟨h1, _, h3⟩
  · exact absurd h2.symm hp
  · rw [gr_one b 1 (Nat.le_refl _), List.append_nil] at h3
    exact ⟨h1, h3⟩
theorem Dig.len {b p q : Nat} {pre : List Nat} (h : Dig b p q pre) (hp : 1 ≤ p) (hp' : p ≤ 1000000000000) : pre.length ≤ 39 := by
  rcases h with ⟨_, _, rfl⟩ | ⟨h1, _, h3⟩
  · simp
  · have := (gr_spec b p hp h1).2.2.1
    have h4 := fw_40 hp hp' h1
    rw [← h3, List.length_append] at this
    omega

set_option maxHeartbeats 1000000 in
theorem leastWithProduct_any (p b : Nat) (w : World) (hp : 1 ≤ p) (hp' : p ≤ 1000000000000) (hb : 2 ≤ b) (hb' : b ≤ 16) :
    Calls Try.prog 102 #[.int .i64 (b : Int), .int .i64 (p : Int)] w fun e w' => e = .returned (optRes (lwp b p)) ∧ Below w.heap.size w w' := by
  by_cases h1 : p = 1
  · subst h1
    have HL := Lib.hid (lwp_one b)
    go_enter Try.func102, Try.ntmps102
    go_wp2
    go_ret2
    exact ⟨by rw [HL.out]; rfl, Below.refl _ _⟩
  · have hpe : ((p : Int) == 1) = false := beq_no (by omega)
    have HP1 := Lib.hid h1
    clear h1
    go_enter Try.func102, Try.ntmps102
    go_wp2_with fail
    refine (splitter_any b _).mono ?_
    rintro e w1 ⟨m, s0, rfl, hs0, hs1, hm, hb1⟩
    have hml := hs0.lt
    have HB1 := Lib.hid hb1
    have HH1 := Lib.hid (heap_alloc_new w1 (.cells #[.int .i64 (b : Int), .map (some m)] 119))
    have HS0 := Lib.hid (hs0.alloc (.cells #[.int .i64 (b : Int), .map (some m)] 119))
    have HBA := Lib.hid (hb1.alloc hb1.size (.cells #[.int .i64 (b : Int), .map (some m)] 119))
    have HS1 := Lib.hid hs1
    have HM := Lib.hid hm
    have hbs := HB1.out.size
    clear hs0 hb1 hs1 hm
    go_wp2_with fail
    go_loopw [1, 7] (fun y o wr => ∃ (q : Nat) (pre : List Nat) (s' : Nat → Bool), y = .int .i64 (q : Int) ∧ 1 ≤ q ∧ q ≤ 1000000000000 ∧ Hid (Dig b p q pre) ∧ Rd wr (w1.heap.size + 1) o (ntI pre) ∧ Sm wr b m s' ∧ Hid (s' 1 = true) ∧ Hid (wr.heap[w1.heap.size]? = some (.cells #[.int .i64 (b : Int), .map (some m)] 119 (0, 0))) ∧ Below w.heap.size w wr) (fun y _ _ => (intOf y).toNat)
    case atStart => exact ⟨p, [], s0, rfl, hp, hp', Lib.hid (Dig.start b p), Rd.nil _ _, HS0.out, Lib.hid HS1.out, Lib.hid HH1.out, HBA.out⟩
    case round =>
      obtain ⟨q, pre, s', rfl, hq1, hq2, HD, hr, hsm, HS', HH, hbl⟩ := hrel
      have HR := Lib.hid hr
      have HSM := Lib.hid hsm
      have HB := Lib.hid hbl
      have HLT := Lib.hid (show w1.heap.size < wr.heap.size from (Array.getElem?_eq_some_iff.1 HH.out).1)
      have HI := Lib.hid (show (Try.prog.info? 119).map (·.size) = some (#[Value.int .i64 (b : Int), Value.map (some m)] : Array Value).size from infoSr6)
      clear hr hsm hbl
      by_cases hlt : 1 < q
      · have hli : (1 : Int) < (q : Int) := by omega
        have HOF := Lib.hid (of_any b hb hb' q hq1 hq2 m s' wr HSM.out HS'.out)
        obtain ⟨C, hC⟩ : ∃ C : Nat, C = ct b q := ⟨_, rfl⟩
        obtain ⟨F1, hF1⟩ : ∃ F : Nat, F = (mf b q).1 := ⟨_, rfl⟩
        obtain ⟨F2, hF2⟩ : ∃ F : Nat, F = (mf b q).2 := ⟨_, rfl⟩
        have HSP := Lib.hid (show spV b q = .agg #[.int .i64 (C : Int), .int .i64 (F1 : Int), .int .i64 (F2 : Int)] by unfold spV; rw [hC, hF1, hF2])
        rw [HSP.out] at HOF
        by_cases hc0 : C = 0
        · have hce : ((C : Int) == 0) = true := beq_yes (by omega)
          have HL := Lib.hid (show lwp b p = none from lwp_none HP1.out (HD.out.dead (by rw [← hC]; exact hc0)))
          clear hC hF1 hF2 hc0
          go_wp2_with (first
            | (refine wpList_load_row rfl 119 (.tmp 6) rfl w1.heap.size rfl _ #[.int .i64 (b : Int), .map (some m)] _ _ HH.out Try.underlying119 rfl HI.out ?_)
            | (go_at_call 150; refine HOF.out.mono ?_; rintro e w2 ⟨s2, rfl, hs2, h12, hg2⟩; have HB2 := Lib.hid (HB.out.grown hg2 HB.out.size (fun k hk => by cases hk; exact HM.out)); clear hs2 h12 hg2))
          go_ret2
          exact ⟨by rw [HL.out]; rfl, by first | exact HB2.out | exact HB2.out.alloc HB2.out.size _⟩
        · have hce : ((C : Int) == 0) = false := beq_no (by omega)
          obtain ⟨m1, m2, m3, m4, m5, _⟩ := mf_spec (b := b) (p := q) (by omega) (by rw [← hC]; exact hc0)
          have HDN := Lib.hid (HD.out.next (by omega) (by rw [← hC]; exact hc0))
          rw [← hF2] at m1 m2 m3 HDN
          obtain ⟨r, hr⟩ : ∃ r : Nat, r = q / F2 := ⟨_, rfl⟩
          have hqi : Int.tdiv (q : Int) (F2 : Int) = (r : Int) := by rw [Int.tdiv_eq_ediv_of_nonneg (by omega), hr]; exact (Int.natCast_ediv q F2).symm
          have hqe : (q : Int) / (F2 : Int) = (r : Int) := by rw [hr]; exact (Int.natCast_ediv q F2).symm
          have hf0 : ((F2 : Int) == 0) = false := beq_no (by omega)
          have hfz : ¬ (F2 : Int) = 0 := by omega
          have hr1 : 1 ≤ r := by rw [hr]; exact Nat.div_pos (Nat.le_of_dvd (by omega) (Nat.dvd_of_mod_eq_zero m3)) (by omega)
          have hrq : r < q := by rw [hr]; exact Nat.div_lt_self (by omega) (by omega)
          have hwr : IntKind.i64.wrap (r : Int) = (r : Int) := IntWalk.i64_in _ (by omega)
          rw [← hr] at HDN
          have HPL := Lib.hid (HD.out.len hp hp')
          have hF16 : F2 ≤ 16 := by omega
          clear hC hF1 hF2 hc0 m1 m2 m3 m4 m5 hr
          go_wp2_with (first
            | (refine wpList_load_row rfl 119 (.tmp 6) rfl w1.heap.size rfl _ #[.int .i64 (b : Int), .map (some m)] _ _ HH.out Try.underlying119 rfl HI.out ?_)
            | (go_at_call 150; refine HOF.out.mono ?_; rintro e w2 ⟨s2, rfl, hs2, h12, hg2⟩; have HS2 := Lib.hid hs2; have H12 := Lib.hid h12; have HG2 := Lib.hid hg2; have HB2 := Lib.hid (HB.out.grown hg2 HB.out.size (fun k hk => by cases hk; exact HM.out)); have HR2 := Lib.hid (HR.out.grown hg2 (by
                cases hv : u7.ownBlock with
                | none => exact .inl rfl
                | some k => right; intro e; cases e; have h1 := (HR.out.lt _ hv).1; omega)); have HH2 := Lib.hid (show w2.heap[w1.heap.size]? = some (.cells #[.int .i64 (b : Int), .map (some m)] 119 (0, 0)) by rw [hg2.block w1.heap.size HLT.out (by simp; omega)]; exact HH.out); have hz2 := hg2.size; clear hs2 h12 hg2)
            | (at_builtin; (refine wpList_appR rfl _ _ rfl (w1.heap.size + 1) w.heap.size _ _ (ntI pre) [(F2 : Int)] rfl rfl ((HR2.out.alloc _).alloc _) (Rd.lit2 w2 _ (F2 : Int) w.heap.size (by have := HB2.out.size; omega)) (by have := HPL.out; rw [ntI_len]; simp; omega) (by have := HLT.out; simp; omega) ?_); intro v1 w3 hr3 hg3 hb3; have HR3 := Lib.hid hr3; have HB3 := Lib.hid hb3; have c3 : w3.cell? ⟨w2.heap.size, 2, none⟩ = some (.int .i64 (F2 : Int)) := hg3.cell (by simp [go_sem]) (by intro e; have h1 := (HR.out.lt _ e.symm).2; simp at h1; omega); clear hr3 hg3 hb3))
          go_roundw
          case rel => exact ⟨r, pre ++ [F2], s2, rfl, hr1, by omega, HDN, by rw [ntI_snoc]; exact HR3.out, ((HS2.out.alloc _).alloc _).keepB HB3.out (by omega), H12, Lib.hid (by rw [HB3.out.block w1.heap.size (Nat.lt_succ_self _), Below.heap_alloc _ _ _ (by simp; have := HLT.out; omega), Below.heap_alloc _ _ _ (by have := HLT.out; omega)]; exact HH2.out), ((HB2.out.alloc HB2.out.size _).alloc (by have := HB2.out.size; simp; omega) _).trans (HB3.out.mono (by omega))⟩
          case measure => simp [intOf]; omega
      · obtain rfl : q = 1 := by omega
        obtain ⟨d1, d2⟩ := HD.out.done HP1.out
        obtain ⟨g1, g2, g3, _⟩ := gr_spec b p hp d1
        have HL := Lib.hid (show lwp b p = numF (b : Int) (ntI pre) 0 by rw [lwp_some HP1.out d1, d2])
        have HNA := Lib.hid (show ∀ x ∈ ntI pre, 0 ≤ x ∧ x ≤ 1000000 by rw [d2]; exact ntI_all g1 (by omega))
        have HNL := Lib.hid (show (ntI pre).length ≤ 1000000 by have := HD.out.len hp hp'; rw [ntI_len]; omega)
        obtain ⟨R, hR⟩ : ∃ R, R = numF (b : Int) (ntI pre) 0 := ⟨_, rfl⟩
        have HNUM := Lib.hid (number_any _ (ntI pre) (b : Int) _ _ HR.out HNA.out (by omega) (by omega) HNL.out)
        rw [← hR] at HNUM HL
        have hli : ¬ (1 : Int) < ((1 : Nat) : Int) := by omega
        clear d1 d2 g1 g2 g3 hR
        go_wp2_with (go_at_call 148; refine HNUM.out.mono ?_; rintro e w2 ⟨rfl, rfl⟩)
        go_ret2
        exact ⟨by rw [HL.out]; rfl, HB.out⟩

end Go.Proofs.Ytgiabadkbfbilaa

/- from XZT -/
namespace Go.Proofs.Ytgiabadkbfbilaa
open Go.RowKit
set_option linter.unusedVariables false
set_option linter.unusedSimpArgs false
set_option maxRecDepth 100000

theorem sp_hit {c L p : Nat} (hc : 2 ≤ c) (h2 : 2 ≤ p) (hp : p ≤ 1000000000000) (hY : spF c L 2 p ≠ []) (hA : ∀ j, j < L → spF c j 2 p = []) : ct c p ≠ 0 ∧ spF c L 2 p = gr c p := by
  obtain ⟨a1, a2, a3⟩ := spF_sound hc L 2 p (Nat.le_refl _) hY
  have h1 := ct_list c _ a2
  have h3 := fw_le c _ a2
  rw [a3] at h1 h3
  rw [a1] at h3
  obtain ⟨m1, m2, m3, m4, m5, _⟩ := mf_spec h2 h1
  have h4 : (mf c p).1 = L + 1 := by
    by_cases h5 : (mf c p).1 = L + 1
    · exact h5
    · exfalso
      have h6 := sp_first hc ((mf c p).1 - 1) 2 p (Nat.le_refl _) h2 hp h1 (by omega) m1
      rw [hA _ (by omega)] at h6
      have h7 := (gr_spec c p (by omega) h1).2.2.1
      rw [← h6] at h7
      simp at h7
      omega
  exact ⟨h1, sp_first hc L 2 p (Nat.le_refl _) h2 hp h1 h4 m1⟩
theorem sp_end {c p : Nat} (hc : 2 ≤ c) (h2 : 2 ≤ p) (hp : p ≤ 1000000000000) (hA : ∀ j, j < 40 → spF c j 2 p = []) : ct c p = 0 := by
  by_cases h1 : ct c p = 0
  · exact h1
  · exfalso
    obtain ⟨m1, m2, m3, m4, m5, _⟩ := mf_spec h2 h1
    have h3 := fw_40 (by omega) hp h1
    have h6 := sp_first hc ((mf c p).1 - 1) 2 p (Nat.le_refl _) h2 hp h1 (by omega) m1
    rw [hA _ (by omega)] at h6
    have h7 := (gr_spec c p (by omega) h1).2.2.1
    rw [← h6] at h7
    simp at h7
    omega

def AskL (n b : Int) : Prop := (1 ≤ n ∧ n ≤ 1000000000000) ∧ Bas b
instance (n b : Int) : Decidable (AskL n b) := by unfold AskL; infer_instance
def ansL (n b : Int) : Option Int := if AskL n b then lwp b.toNat n.toNat else none
theorem ansL_yes {p c : Nat} (h : AskL (p : Int) (c : Int)) : ansL (p : Int) (c : Int) = lwp c p := by rw [ansL, if_pos h]; rfl
theorem ansL_no {n b : Int} (h : ¬ AskL n b) : ansL n b = none := if_neg h

theorem impl_LeastWithProduct (n b : Int) (w : World) :
    Calls Try.prog 38 #[.int .i64 n, .int .i64 b] w fun e w' => e = .returned (optRes (ansL n b)) ∧ Below w.heap.size w w' := by
  by_cases h1 : 1 ≤ n
  · have hlt : decide (n < 1) = false := decide_eq_false (by omega)
    have HF := Lib.hid (show ∀ w' : World, Calls Try.prog 99 #[.int .i64 n, .int .i64 b, .func (Fn.func 102) #[] #[]] w' fun e w'' => e = .returned (optRes (ansL n b)) ∧ Below w'.heap.size w' w'' from fun w' => by
      by_cases hn : Num n
      · have a1 : decide (Num n) = true := decide_eq_true hn
        by_cases hB : Bas b
        · have a2 : decide (Bas b) = true := decide_eq_true hB
          obtain ⟨n0, n1⟩ := hn
          obtain ⟨b0, b1⟩ := hB
          obtain ⟨c, rfl⟩ : ∃ c : Nat, b = (c : Int) := ⟨b.toNat, by omega⟩
          obtain ⟨p, rfl⟩ : ∃ p : Nat, n = (p : Int) := ⟨n.toNat, by omega⟩
          have hR := Lib.hid (ansL_yes (p := p) (c := c) ⟨⟨h1, n1⟩, b0, b1⟩)
          have HL := Lib.hid (fun w' => leastWithProduct_any p c w' (by omega) (by omega) (by omega) (by omega))
          go_enter Try.func99, Try.ntmps99
          go_wp2_with (first | (go_at_call 140; refine (isNumber_any _ _).mono ?_; rintro e w1 ⟨rfl, rfl⟩) | (go_at_call 111; refine (isBase_any _ _).mono ?_; rintro e w1 ⟨rfl, rfl⟩) | (go_at_call 102; refine (HL.out _).mono ?_; rintro e w1 ⟨rfl, hbl⟩; have HB := Lib.hid hbl; clear hbl))
          go_ret2
          exact ⟨by rw [hR.out]; rfl, HB.out⟩
        · have a2 : decide (Bas b) = false := decide_eq_false hB
          have hR := Lib.hid (ansL_no (n := n) (b := b) (fun h => hB h.2))
          clear hn hB
          go_enter Try.func99, Try.ntmps99
          go_wp2_with (first | (go_at_call 140; refine (isNumber_any _ _).mono ?_; rintro e w1 ⟨rfl, rfl⟩) | (go_at_call 111; refine (isBase_any _ _).mono ?_; rintro e w1 ⟨rfl, rfl⟩))
          go_ret2
          exact ⟨by rw [hR.out]; rfl, Below.refl _ _⟩
      · have a1 : decide (Num n) = false := decide_eq_false hn
        have hR := Lib.hid (ansL_no (n := n) (b := b) (fun h => hn ⟨by have := h.1.1; omega, h.1.2⟩))
        clear hn
        go_enter Try.func99, Try.ntmps99
        go_wp2_with (first | (go_at_call 140; refine (isNumber_any _ _).mono ?_; rintro e w1 ⟨rfl, rfl⟩) | (go_at_call 111; refine (isBase_any _ _).mono ?_; rintro e w1 ⟨rfl, rfl⟩))
        go_ret2
        exact ⟨by rw [hR.out]; rfl, Below.refl _ _⟩)
    go_enter Try.func38, Try.ntmps38
    go_wp2_with (go_at_call 99; refine (HF.out _).mono ?_; rintro e w1 ⟨rfl, hbl⟩; have HB := Lib.hid hbl; clear hbl)
    go_ret2
    exact ⟨rfl, HB.out⟩
  · have hlt : decide (n < 1) = true := decide_eq_true (by omega)
    have hR := Lib.hid (ansL_no (n := n) (b := b) (fun h => h1 h.1.1))
    go_enter Try.func38, Try.ntmps38
    go_wp2
    go_ret2
    exact ⟨by rw [hR.out]; rfl, Below.refl _ _⟩

set_option maxHeartbeats 1000000 in
theorem spec_LeastWithProduct (n b : Int) (w : World) :
    Calls Try.prog 39 #[.int .i64 n, .int .i64 b] w fun e w' => e = .returned (optRes (ansL n b)) ∧ Below w.heap.size w w' := by
  by_cases hq : Num n ∧ Bas b
  · have a1 : decide (Num n ∧ Bas b) = true := decide_eq_true hq
    obtain ⟨⟨n0, n1⟩, b0, b1⟩ := hq
    by_cases hz : n = 0
    · have hR := Lib.hid (ansL_no (n := n) (b := b) (fun h => by have := h.1.1; omega))
      have hz0 : (n == 0) = true := beq_yes hz
      clear hz
      go_enter Try.func39, Try.ntmps39
      go_wp2_with (go_at_call 92; refine (dgAsked_any _ _ _).mono ?_; rw [a1]; rintro e w1 ⟨rfl, rfl⟩)
      go_ret2
      exact ⟨by rw [hR.out]; rfl, Below.refl _ _⟩
    · obtain ⟨c, rfl⟩ : ∃ c : Nat, b = (c : Int) := ⟨b.toNat, by omega⟩
      obtain ⟨p, rfl⟩ : ∃ p : Nat, n = (p : Int) := ⟨n.toNat, by omega⟩
      have hR := Lib.hid (ansL_yes (p := p) (c := c) ⟨⟨by omega, n1⟩, b0, b1⟩)
      have hz0 : ((p : Int) == 0) = false := beq_no hz
      have A1 := Lib.hid a1
      by_cases h1 : p = 1
      · have hp1 : ((p : Int) == 1) = true := beq_yes (by omega)
        have HL := Lib.hid (show lwp c p = some 1 by rw [h1]; exact lwp_one c)
        clear hz a1 h1
        go_enter Try.func39, Try.ntmps39
        go_wp2_with (go_at_call 92; refine (dgAsked_any _ _ _).mono ?_; rw [A1.out]; rintro e w1 ⟨rfl, rfl⟩)
        go_ret2
        exact ⟨by rw [hR.out, HL.out]; rfl, Below.refl _ _⟩
      · have hp1 : ((p : Int) == 1) = false := beq_no (by omega)
        have hp2 : 2 ≤ p := by omega
        have HP1 := Lib.hid h1
        obtain ⟨q, hq⟩ : ∃ q, q = smo (c : Int) (p : Int) := ⟨_, rfl⟩
        have HQ := Lib.hid hq
        cases q with
        | false =>
          have HL := Lib.hid (show lwp c p = none from lwp_none h1 (by
            by_cases h : ct c p = 0
            · exact h
            · have := smo_ct (b := c) (by omega) (by omega) h
              rw [← hq] at this
              cases this))
          clear hz a1 h1 hq
          go_enter Try.func39, Try.ntmps39
          go_wp2_with (first | (go_at_call 92; refine (dgAsked_any _ _ _).mono ?_; rw [A1.out]; rintro e w1 ⟨rfl, rfl⟩) | (go_at_call 103; refine (prSmooth_any _ _ _ (by omega) n1 b0 b1).mono ?_; rw [← HQ.out]; rintro e w1 ⟨rfl, rfl⟩))
          go_ret2
          exact ⟨by rw [hR.out, HL.out]; rfl, Below.refl _ _⟩
        | true =>
          have HSP := Lib.hid (fun (L : Nat) (w' : World) (hL : L ≤ 39) => prSpell_any c (by omega) (by omega) L 2 p w' hL (Nat.le_refl _) (by omega) (by omega) (by omega))
          clear hz a1 h1 hq
          go_enter Try.func39, Try.ntmps39
          go_wp2_with (first | (go_at_call 92; refine (dgAsked_any _ _ _).mono ?_; rw [A1.out]; rintro e w1 ⟨rfl, rfl⟩) | (go_at_call 103; refine (prSmooth_any _ _ _ (by omega) n1 b0 b1).mono ?_; rw [← HQ.out]; rintro e w1 ⟨rfl, rfl⟩))
          go_loopw [6] (fun i wr => ∃ L : Nat, i = .int .i64 ((L : Int) + 1) ∧ L ≤ 40 ∧ Hid (∀ j, j < L → spF c j 2 p = []) ∧ Below w.heap.size w wr) (fun i _ => (41 - intOf i).toNat)
          case atStart => exact ⟨0, rfl, by omega, Lib.hid (fun j h => by omega), Below.refl _ _⟩
          case round =>
            obtain ⟨L, rfl, hL, HA, hbl⟩ := hrel
            have HB := Lib.hid hbl
            clear hbl
            by_cases hlt : L < 40
            · have HI := Lib.hid (fun w' => HSP.out L w' (by omega))
              go_wp2_with fail
              refine (HI.out _).mono ?_
              rintro e w1 ⟨v, rfl, hrv, hbv⟩
              have HRV := Lib.hid hrv
              have HBV := Lib.hid (Below.step HB.out HB.out.size hbv)
              obtain ⟨a5, c5, rfl⟩ := rd_shape9 hrv
              obtain ⟨Y, hY⟩ : ∃ Y, Y = spF c L 2 p := ⟨_, rfl⟩
              have HY := Lib.hid hY
              rw [← hY, ntI_len]
              rw [ntI_len] at HRV
              rw [← hY] at HRV
              clear hrv hbv hY
              by_cases he : Y = []
              · have hl0 : Y.length = 0 := by rw [he]; rfl
                have HN := Lib.hid (show ∀ j, j < L + 1 → spF c j 2 p = [] from fun j hj => by
                  by_cases e : j = L
                  · subst e; rw [← HY.out]; exact he
                  · exact HA.out j (by omega))
                clear he
                go_wp2_with fail
                go_roundw
                case rel => exact ⟨L + 1, by go_num, by omega, HN, HBV.out⟩
                case measure => simp [intOf]; omega
              · have hl0 : 0 < Y.length := List.length_pos_iff.2 he
                have hl1 : (0 : Int) < (Y.length : Int) := by omega
                obtain ⟨k1, k2⟩ := sp_hit (c := c) (L := L) (by omega) hp2 (by omega) (by rw [← HY.out]; exact he) HA.out
                have HL := Lib.hid (show lwp c p = numF (c : Int) (ntI Y) 0 by rw [lwp_some HP1.out k1, HY.out, k2])
                have HYS := Lib.hid (spF_sound (b := c) (by omega) L 2 p (Nat.le_refl _) (by rw [← HY.out]; exact he))
                rw [← HY.out] at HYS
                have HYL := Lib.hid (show (ntI Y).length ≤ 1000000 by rw [ntI_len, HYS.out.1]; omega)
                have HYA := Lib.hid (ntI_all HYS.out.2.1 (by omega))
                have HDG := Lib.hid (fun w' (h : Rd w' w'.heap.size (.slice a5 Y.length c5) (ntI Y)) => dgFrom_any (.slice a5 Y.length c5) (ntI Y) (c : Int) w'.heap.size w' h HYA.out b0 b1 HYL.out)
                obtain ⟨R, hR2⟩ : ∃ R, R = numF (c : Int) (ntI Y) 0 := ⟨_, rfl⟩
                have HDF := Lib.hid (dgFrom_any (.slice a5 Y.length c5) (ntI Y) (c : Int) _ _ HRV.out HYA.out b0 b1 HYL.out)
                rw [← hR2] at HDF HL
                clear he k1 k2 hR2
                go_wp2_with (go_at_call 105; refine HDF.out.mono ?_; rintro e w2 ⟨rfl, rfl⟩)
                go_ret2
                exact ⟨by rw [hR.out, HL.out]; rfl, HBV.out⟩
            · have HL := Lib.hid (show lwp c p = none from lwp_none HP1.out (sp_end (by omega) hp2 (by omega) (fun j hj => HA.out j (by omega))))
              go_wp2_with fail
              go_ret2
              exact ⟨by rw [hR.out, HL.out]; rfl, HB.out⟩
  · have a1 : decide (Num n ∧ Bas b) = false := decide_eq_false hq
    have hR := Lib.hid (ansL_no (n := n) (b := b) (fun h => hq ⟨⟨by have := h.1.1; omega, h.1.2⟩, h.2⟩))
    clear hq
    go_enter Try.func39, Try.ntmps39
    go_wp2_with (go_at_call 92; refine (dgAsked_any _ _ _).mono ?_; rw [a1]; rintro e w1 ⟨rfl, rfl⟩)
    go_ret2
    exact ⟨by rw [hR.out]; rfl, Below.refl _ _⟩

end Go.Proofs.Ytgiabadkbfbilaa
