/-
  slices.Reverse; the program's digits.
-/
import Derived.Test.YtnggfcopndcppaaM
import Derived.BigRegion
namespace Go.Proofs.Ytnggfcopndcppaa
open Go.RowKit
set_option linter.unusedVariables false
set_option linter.unusedSimpArgs false

/-- A list whose first and last k elements have been exchanged. -/
def RevK (xs ys : List Int) (k : Nat) : Prop := ys.length = xs.length ∧ ∀ t, t < xs.length → ys[t]? = if t < k ∨ xs.length - k ≤ t then xs[xs.length - 1 - t]? else xs[t]?

theorem RevK.zero (xs : List Int) : RevK xs xs 0 := ⟨rfl, fun t ht => by rw [if_neg (by omega)]⟩

theorem RevK.done {xs ys : List Int} {k : Nat} (h : RevK xs ys k) (hk : xs.length ≤ 2 * k + 1) : ys = xs.reverse := by
  apply List.ext_getElem?
  intro t
  by_cases ht : t < xs.length
  · rw [h.2 t ht, List.getElem?_reverse ht]
    split
    · rfl
    · rw [show xs.length - 1 - t = t by omega]
  · rw [List.getElem?_eq_none (by rw [h.1]; omega), List.getElem?_eq_none (by simp; omega)]

theorem RevK.step {xs ys : List Int} {k : Nat} (h : RevK xs ys k) (hk : 2 * k + 1 < xs.length) (p q : Int) (hp : ys[k]? = some p) (hq : ys[xs.length - 1 - k]? = some q) :
    RevK xs ((ys.set k q).set (xs.length - 1 - k) p) (k + 1) := by
  refine ⟨by simp [h.1], fun t ht => ?_⟩
  have h1 := h.2 k (by omega)
  have h2 := h.2 (xs.length - 1 - k) (by omega)
  rw [if_neg (by omega)] at h1 h2
  rw [hp] at h1
  rw [hq] at h2
  rw [List.getElem?_set]
  by_cases e1 : xs.length - 1 - k = t
  · rw [if_pos e1, if_pos (by simp [h.1]; omega), if_pos (by omega), show xs.length - 1 - t = k by omega]
    exact h1
  · rw [if_neg e1, List.getElem?_set]
    by_cases e2 : k = t
    · rw [if_pos e2, if_pos (by rw [h.1]; omega), if_pos (by omega), ← e2]
      exact h2
    · rw [if_neg e2, h.2 t ht]
      by_cases e3 : t < k ∨ xs.length - k ≤ t
      · rw [if_pos e3, if_pos (by omega)]
      · rw [if_neg e3, if_neg (by omega)]

theorem reverse_any (g n cap : Nat) (xs : List Int) (B : Nat) (w : World) (h : Rd w B (.slice (some ⟨g, 0, none⟩) n cap) xs) (hl : xs.length ≤ 2000000) :
    Calls Try.prog 105 #[.slice (some ⟨g, 0, none⟩) n cap] w fun e w' => e = .returned (.tuple #[]) ∧ Rd w' B (.slice (some ⟨g, 0, none⟩) n cap) xs.reverse ∧ w.grownBy w' (some g) := by
  obtain ⟨rfl, hBg, hgw, _⟩ := h.at
  have H := Lib.hid h
  clear h
  by_cases h0 : xs.length = 0
  · have hx : xs = [] := List.eq_nil_of_length_eq_zero h0
    subst hx
    clear h0
    go_enter Try.func105, Try.ntmps105
    go_wp2
    refine wp_loop_rounds 1 ?_
    rw [rounds_succ]
    go_wp2
    go_end0
    exact ⟨rfl, H.out, World.grownBy.refl _ _⟩
  · have hpos : 1 ≤ xs.length := by omega
    clear h0
    go_enter Try.func105, Try.ntmps105
    go_wp2
    go_loopw [2, 3] (fun i j wr => ∃ (k jn : Nat) (ys : List Int), i = .int .i64 k ∧ j = .int .i64 jn ∧ jn + k + 1 ≤ xs.length ∧ xs.length ≤ jn + k + 1 ∧ k ≤ jn + 1 ∧ RevK xs ys k ∧ Rd wr B (.slice (some ⟨g, 0, none⟩) xs.length cap) ys ∧ w.grownBy wr (some g)) (fun i j _ => (intOf j + 1 - intOf i).toNat)
    case atStart => exact ⟨0, xs.length - 1, xs, rfl, by rw [show ((xs.length - 1 : Nat) : Int) = (xs.length : Int) - 1 by omega], by omega, by omega, by omega, RevK.zero xs, H.out, World.grownBy.refl _ _⟩
    case round =>
      obtain ⟨k, jn, ys, rfl, rfl, e1, e2, hkj, hrk, hr, hg⟩ := hrel
      have HK := Lib.hid hrk
      have HR := Lib.hid hr
      have HG := Lib.hid hg
      clear hrk hr hg
      by_cases hlt : k < jn
      · have hyl : k < ys.length ∧ jn < ys.length := by have := HK.out.1; omega
        obtain ⟨p, hp⟩ : ∃ p, p = ys[k]'hyl.1 := ⟨_, rfl⟩
        obtain ⟨q, hq⟩ : ∃ q, q = ys[jn]'hyl.2 := ⟨_, rfl⟩
        have ck : wr.cell? ⟨g, k, none⟩ = some (.int .i64 p) := by rw [hp]; exact HR.out.at.2.2.2.2.1 k hyl.1
        have cj : wr.cell? ⟨g, jn, none⟩ = some (.int .i64 q) := by rw [hq]; exact HR.out.at.2.2.2.2.1 jn hyl.2
        have fk : wr.frozen? ⟨g, k, none⟩ = false := HR.out.at.2.2.2.2.2 k
        have fj : wr.frozen? ⟨g, jn, none⟩ = false := HR.out.at.2.2.2.2.2 jn
        have HP := Lib.hid hp
        have HQ := Lib.hid hq
        clear hp hq
        have hne : k ≠ jn := by omega
        go_wp2
        go_region
        go_wp2
        go_roundw
        case rel =>
          have h1 := HR.out.set k q
          have h2 := h1.1.set jn p
          have hjn : xs.length - 1 - k = jn := by omega
          have hst := HK.out.step (k := k) (by omega) p q (by rw [HP.out]; simp) (by rw [hjn, HQ.out]; simp)
          rw [hjn] at hst
          exact ⟨k + 1, jn - 1, _, by go_num, by rw [show ((jn - 1 : Nat) : Int) = (jn : Int) - 1 by omega], by omega, by omega, by omega, hst, h2.1.drew, grown_drew (grown_trans (grown_trans HG.out h1.2) h2.2)⟩
        case measure => simp [intOf]; omega
      · go_wp2
        go_end0
        exact ⟨rfl, by rw [← HK.out.done (by omega)]; exact HR.out, HG.out⟩


theorem digits_any (n b : Int) (w : World) (h0 : 0 ≤ n) (h1 : n ≤ 1000000000001) (hb : 2 ≤ b) (hb' : b ≤ 16) :
    Calls Try.prog 99 #[.int .i64 b, .int .i64 n] w fun e w' => ∃ g cap, e = .returned (.slice (some ⟨g, 0, none⟩) (dgs b n).length cap) ∧ Rd w' w.heap.size (.slice (some ⟨g, 0, none⟩) (dgs b n).length cap) (dgs b n) ∧ Below w.heap.size w w' := by
  have hl := Lib.hid (revD_len41 b n hb h0 h1)
  have hst := Lib.hid (show [n % b] ++ lft b (n / b) = revD b n by rw [revD_step b n hb h0]; rfl)
  have hmd0 := mod_bd b n hb
  go_enter Try.func99, Try.ntmps99
  go_wp2
  go_loopw [1, 5] (fun c o wr => ∃ (m : Int) (out : List Int), 0 ≤ m ∧ m ≤ 1000000000001 ∧ c = .int .i64 m ∧ Rd wr w.heap.size o out ∧ Below w.heap.size w wr ∧ out ++ lft b (m / b) = revD b n ∧ 1 ≤ out.length) (fun c _ _ => (intOf c).toNat)
  case atStart => exact ⟨n, [n % b], by omega, by omega, rfl, Rd.litB _ _ _ (Nat.le_refl _), (Below.refl _ _).alloc (Nat.le_refl _) _, hst.out, by simp⟩
  case round =>
    obtain ⟨m, out, m0, m1, rfl, hr, hbl, heq, hop⟩ := hrel
    have HR := Lib.hid hr
    have HB := Lib.hid hbl
    have HE := Lib.hid heq
    clear hr hbl heq
    have hol : out.length ≤ 40 := by
      have h2 := congrArg List.length HE.out
      have h3 := hl.out
      simp at h2
      omega
    by_cases hm : b ≤ m
    · have hdv := div_half b m hb m0
      have hdl := div_lt b m hb hm
      have hdp := div_pos b m hb hm
      have hmd := mod_bd b (m / b) hb
      have hls := Lib.hid (lft_step b (m / b) hb (by omega))
      have hsz := HB.out.size
      go_wp2_with (at_builtin; refine wpList_appR rfl _ _ rfl w.heap.size w.heap.size _ _ out [m / b % b] rfl rfl (HR.out.alloc _) (Rd.litB _ _ _ (by omega)) (by simp; omega) (by simp; omega) ?_; intro v1 w1 hr1 hg1 hb1)
      have HR1 := Lib.hid hr1
      have HB1 := Lib.hid (((HB.out.alloc (by omega) _).trans hb1))
      clear hr1 hg1 hb1
      go_wp2
      go_roundw
      case rel => exact ⟨m / b, out ++ [m / b % b], by omega, by omega, by go_num, HR1.out, HB1.out, by rw [← HE.out, hls.out]; simp, by simp⟩
      case measure => simp [intOf]; omega
    · have hz := Lib.hid (div_small b m hb m0 (by omega))
      rcases HR.out.cases with ⟨_, rfl⟩ | ⟨g, cap, rfl, hg1, hg2, _, _, _, _⟩
      · simp at hop
      · have hout := Lib.hid (show out = revD b n by rw [← HE.out, hz.out]; simp [lft])
        have hsz := HB.out.size
        go_wp2_with (go_at_call 105; refine (reverse_any _ _ _ _ _ _ HR.out (by omega)).mono ?_; rintro e w1 ⟨rfl, hr1, hgr1⟩)
        have HR1 := Lib.hid hr1
        have HG1 := Lib.hid hgr1
        clear hr1 hgr1
        go_ret
        have hlen : (dgs b n).length = out.length := by rw [dgs_len, hout.out]
        exact ⟨g, cap, by rw [hlen]; rfl, by rw [hlen, dgs, ← hout.out]; exact HR1.out, HB.out.trans (grown_below HG1.out (by omega) hg1)⟩

end Go.Proofs.Ytnggfcopndcppaa
