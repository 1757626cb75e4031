/-
  Numbers that are their own power sums: the program's search.
-/
import Derived.Test.YtejehmplebjnmaaVB
import Derived.Test.YtejehmplebjnmaaUD
import Derived.Test.YtejehmplebjnmaaH3
import Derived.Test.YtejehmplebjnmaaS6
namespace Go.Proofs.Ytejehmplebjnmaa
open Go.RowKit
set_option linter.unusedVariables false
set_option linter.unusedSimpArgs false
set_option maxRecDepth 100000

theorem grow_none (w : World) : Go.Sort.grow w #[] = w := by simp [Go.Sort.grow]

theorem compact_any (g n cap : Nat) (xs : List Int) (B : Nat) (w : World) (h : Rd w B (.slice (some ⟨g, 0, none⟩) n cap) xs) (hl : xs.length ≤ 2000000) :
    Calls Try.prog 100 #[.slice (some ⟨g, 0, none⟩) n cap] w fun e w' => e = .returned (.slice (some ⟨g, 0, none⟩) (Lib.compact xs).length cap) ∧ Rd w' B (.slice (some ⟨g, 0, none⟩) (Lib.compact xs).length cap) (Lib.compact xs) ∧ w.grownBy w' (some g) := by
  obtain ⟨rfl, _⟩ := h.at
  rcases h.2 with ⟨h1, _⟩ | ⟨g', cap', cur, hv, hg, hh, hn, hm, hc, ht⟩
  · simp at h1
  · simp only [Value.slice.injEq, Option.some.injEq, Addr.mk.injEq, and_true, true_and] at hv
    obtain ⟨rfl, rfl⟩ := hv
    have hle : (Lib.compact xs).length ≤ xs.length := by
      unfold Lib.compact Lib.compactUpTo
      rw [List.length_map]
      have := List.length_filter_le (Lib.keeps xs.toArray) (List.range xs.length)
      rwa [List.length_range] at this
    refine (Try.slices_Compact_int g 0 cap xs w (holds_of_blockI hh (by simpa using ht)) (by omega) hn).mono ?_
    rintro e w' ⟨rfl, q, rfl⟩
    obtain ⟨zz, hz⟩ : ∃ zz, zz = Lib.compact xs ++ List.replicate (xs.length - (Lib.compact xs).length) 0 := ⟨_, rfl⟩
    have hzl : zz.length = xs.length := by rw [hz]; simp; omega
    rw [← hz]
    have h3 := ownsRow_sortedI (w := w) (base := B) (n := q) (os := #[]) (ts := zz) hzl hg hh hn hm hc
    have h4 := grownBy_sortedI (w := w) (g := g) (n := q) (os := #[]) zz.toArray
    rw [grow_none] at h3 h4
    have h5 : Rd (Go.Sort.putRow (Value.int .i64) (Go.Sort.ahead w q) g 0 zz.toArray) B (.slice (some ⟨g, 0, none⟩) xs.length cap) zz := by
      unfold Rd
      rw [hzl]
      exact h3
    have h6 := h5.take (Lib.compact xs).length (by omega)
    have h7 : zz.take (Lib.compact xs).length = Lib.compact xs := by rw [hz, List.take_append_of_le_length (Nat.le_refl _), List.take_of_length_le (Nat.le_refl _)]
    rw [h7] at h6
    exact ⟨rfl, h6, h4⟩

theorem pow6 {x p : Nat} (hx : x ≤ 9) (hp : p ≤ 6) : x ^ p ≤ 531441 := by
  have h1 := Nat.pow_le_pow_left hx p
  have h2 := Nat.pow_le_pow_right (show 0 < 9 by omega) hp
  have h3 : 9 ^ 6 = 531441 := by decide
  omega

theorem ow_zero_yes {b p s m : Nat} (h : ps b p s = s) : ow b p 0 s m = [(s : Int)] := by
  have h0 : ow b p 0 s m = if ps b p s = s then [(s : Int)] else [] := rfl
  rw [h0, if_pos h]
theorem ow_zero_no {b p s m : Nat} (h : ps b p s ≠ s) : ow b p 0 s m = [] := by
  have h0 : ow b p 0 s m = if ps b p s = s then [(s : Int)] else [] := rfl
  rw [h0, if_neg h]

theorem ownWith_any (g c b p : Nat) (hb : 2 ≤ b) (hb' : b ≤ 10) (hp : 1 ≤ p) (hp' : p ≤ 6) : ∀ (n s m : Nat) (w : World), Tp w g b p → n ≤ 8 → m < b → s + n * 531441 ≤ 1000000000 →
    Calls Try.prog 98 #[.slice (some ⟨g, 0, none⟩) b c, .int .i64 (s : Int), .int .i64 (n : Int), .int .i64 (m : Int)] w fun e w' => ∃ u, e = .returned u ∧ Rd w' w.heap.size u (ow b p n s m) ∧ Below w.heap.size w w' := by
  intro n
  induction n with
  | zero =>
    intro s m w hT hn hm hs
    have HT := Lib.hid hT
    by_cases he : ps b p s = s
    · have HE := Lib.hid he
      have HO := Lib.hid (ow_zero_yes (m := m) he)
      have HS := Lib.hid (sumP_any g c b p s · · hb (by omega) hp (by omega) (by omega))
      rw [he] at HS
      have hz : ((s : Int) == (s : Int)) = true := beq_yes rfl
      clear hT he
      go_enter Try.func98, Try.ntmps98
      go_wp2_with (go_at_call 58; refine (HS.out _ HT.out).mono ?_; rintro e w1 ⟨rfl, hb1⟩; have HB1 := Lib.hid hb1; clear hb1)
      go_ret
      exact ⟨_, rfl, by rw [HO.out]; exact (Rd.litB _ _ _ HB1.out.size), HB1.out.alloc HB1.out.size _⟩
    · have HO := Lib.hid (ow_zero_no (m := m) he)
      have HS := Lib.hid (sumP_any g c b p s · · hb (by omega) hp (by omega) (by omega))
      obtain ⟨x, hx⟩ : ∃ x, x = ps b p s := ⟨_, rfl⟩
      rw [← hx] at HS he
      have hz : ((x : Int) == (s : Int)) = false := beq_no (by omega)
      clear hT he hx
      go_enter Try.func98, Try.ntmps98
      go_wp2_with (go_at_call 58; refine (HS.out _ HT.out).mono ?_; rintro e w1 ⟨rfl, hb1⟩; have HB1 := Lib.hid hb1; clear hb1)
      go_ret
      exact ⟨_, rfl, by rw [HO.out]; exact Rd.nil _ _, HB1.out⟩
  | succ n ih =>
    intro s m w hT hn hm hs
    have HT := Lib.hid hT
    have IH := Lib.hid ih
    obtain ⟨N, hN⟩ : ∃ N, N = n + 1 := ⟨_, rfl⟩
    have hNi : (N : Int) - 1 = (n : Int) := by omega
    have hz : ((N : Int) == 0) = false := beq_no (by omega)
    have HO := Lib.hid (ow_succ b p n s m)
    have hNn : n + 1 ≤ 8 := hn
    rw [← hN] at HO hs ⊢
    have hs2 : s + n * 531441 + 531441 ≤ 1000000000 := by rw [hN] at hs; omega
    clear hT ih hN hs hn
    go_enter Try.func98, Try.ntmps98
    go_wp2
    go_loopw [9, 22] (fun o i wr => ∃ k : Nat, k ≤ m + 1 ∧ i = .int .i64 (k : Int) ∧ Rd wr w.heap.size o (owTo b p n s k) ∧ Below w.heap.size w wr) (fun _ i _ => m + 1 - (intOf i).toNat)
    case atStart => exact ⟨0, Nat.zero_le _, rfl, Rd.nil _ _, Below.refl _ _⟩
    case round =>
      obtain ⟨k, hk, rfl, hr, hbl⟩ := hrel
      have HR := Lib.hid hr
      have HB := Lib.hid hbl
      have HTr := Lib.hid (HT.out.keep hbl)
      have hsz := hbl.size
      clear hr hbl
      by_cases hlt : k < m + 1
      · have hct := HTr.out.cell k (by omega)
        obtain ⟨u, hu⟩ : ∃ u, u = k ^ p := ⟨_, rfl⟩
        have hub : u ≤ 531441 := by rw [hu]; exact pow6 (by omega) hp'
        obtain ⟨t, ht⟩ : ∃ t, t = s + u := ⟨_, rfl⟩
        have hsu : (s : Int) + (u : Int) = (t : Int) := by omega
        have HST := Lib.hid (owTo_succ b p n s k)
        rw [← hu, ← ht] at HST
        have hl1 := owTo_len8 (b := b) (p := p) (s := s) (m := m) hNn (by omega) hk
        have hl2 := Nat.le_trans (ow_len b p n t k) (ct_bd (by omega) (show k ≤ 9 by omega))
        have HIH := Lib.hid (fun w' (h : Tp w' g b p) => IH.out t k w' h (by omega) (by omega) (by omega))
        obtain ⟨ys, hys⟩ : ∃ ys, ys = ow b p n t k := ⟨_, rfl⟩
        obtain ⟨xs, hxs⟩ : ∃ xs, xs = owTo b p n s k := ⟨_, rfl⟩
        rw [← hu] at hct
        rw [← hys] at hl2 HIH HST
        rw [← hxs] at hl1 HST HR
        clear hu ht hys hxs
        go_wp2_with fail
        refine (HIH.out _ HTr.out).mono ?_
        rintro e w1 ⟨v1, rfl, hr1, hb1⟩
        have HR1 := Lib.hid hr1
        have HRo := Lib.hid (HR.out.keep hb1)
        have HB1 := Lib.hid (Below.step HB.out hsz hb1)
        clear hr1 hb1
        go_wp2_with (at_builtin; refine wpList_appR rfl _ _ rfl w.heap.size _ _ _ xs ys rfl rfl HRo.out HR1.out (by omega) HB1.out.size ?_; intro v2 w2 hr2 hg2 hb2; have HR2 := Lib.hid hr2; have HB2 := Lib.hid (HB1.out.trans hb2); clear hr2 hg2 hb2)
        go_roundw
        case rel => exact ⟨k + 1, by omega, by go_num, by rw [HST.out]; exact HR2.out, HB2.out⟩
        case measure => simp [intOf]; omega
      · obtain rfl : k = m + 1 := by omega
        go_wp2
        go_ret
        exact ⟨_, rfl, by rw [HO.out]; exact HR.out, HB.out⟩

theorem ow_ne {b p : Nat} (hb : 2 ≤ b) (hb' : b ≤ 16) (hp : 1 ≤ p) (hp' : p ≤ 8) : ow b p (places b p) 0 (b - 1) ≠ [] := by
  intro h
  have := (mem_own hb hb' hp hp' 0).2 ⟨0, rfl, ps_zero b p⟩
  rw [h] at this
  simp at this

theorem ownP_any (g c b p : Nat) (w : World) (hT : Tp w g b p) (hb : 2 ≤ b) (hb' : b ≤ 10) (hp : 1 ≤ p) (hp' : p ≤ 6) :
    Calls Try.prog 79 #[.slice (some ⟨g, 0, none⟩) b c] w fun e w' => ∃ gu cu, e = .returned (.slice (some ⟨gu, 0, none⟩) (ownL b p).length cu) ∧ Rd w' w.heap.size (.slice (some ⟨gu, 0, none⟩) (ownL b p).length cu) (ownL b p) ∧ Below w.heap.size w w' := by
  have HT := Lib.hid hT
  have h1 := (ff_spec hb (by omega) hp (by omega)).1
  have h2 := places_bd hb hb' hp hp'
  have HFP := Lib.hid (show ∀ w' : World, Tp w' g b p → Calls Try.prog 64 #[.slice (some ⟨g, 0, none⟩) b c] w' fun e w'' => e = .returned (.int .i64 ((ff b p : Nat) : Int)) ∧ w'' = w' from fun w' h => (fallsP_any g c b p w' h hb (by omega) hp (by omega)).mono (fun e w'' h => ⟨h.1, h.2.symm⟩))
  obtain ⟨z, hz⟩ : ∃ z, z = ff b p := ⟨_, rfl⟩
  obtain ⟨K, hK⟩ : ∃ K, K = places b p := ⟨_, rfl⟩
  have hzK : (z : Int) - 1 = (K : Int) := by rw [hK, hz]; unfold places; omega
  have HOW := Lib.hid (fun w' h => ownWith_any g c b p hb hb' hp hp' K 0 (b - 1) w' h (by rw [hK]; exact h2) (by omega) (by rw [← hK] at h2; omega))
  have HNE := Lib.hid (ow_ne hb (show b ≤ 16 by omega) hp (show p ≤ 8 by omega))
  have HOL := Lib.hid (show ownL b p = Lib.compact (srt (ow b p K 0 (b - 1))) by rw [hK]; rfl)
  have hl := Nat.le_trans (ow_len b p K 0 (b - 1)) (ct_bd (by rw [hK]; exact h2) (show b - 1 ≤ 9 by omega))
  have hb1 : (b : Int) - 1 = ((b - 1 : Nat) : Int) := by omega
  rw [← hz] at HFP h1
  rw [← hK] at HNE h2
  obtain ⟨xs, hxs⟩ : ∃ xs, xs = ow b p K 0 (b - 1) := ⟨_, rfl⟩
  rw [← hxs] at HOW HNE HOL hl
  clear hT hz hK hxs
  go_enter Try.func79, Try.ntmps79
  go_wp2_with (go_at_call 64; refine (HFP.out _ HT.out).mono ?_; rintro e w1 ⟨rfl, rfl⟩)
  refine (HOW.out _ HT.out).mono ?_
  rintro e w1 ⟨u, rfl, hr, hb1'⟩
  obtain ⟨gu, cu, rfl⟩ : ∃ gu cu, u = .slice (some ⟨gu, 0, none⟩) xs.length cu := by
    rcases hr.cases with ⟨_, hx⟩ | ⟨gu, cu, hu, _⟩
    · exact absurd hx HNE.out
    · exact ⟨gu, cu, hu⟩
  have HR := Lib.hid hr
  have HB := Lib.hid hb1'
  have hgB := hr.at.2.1
  clear hr hb1'
  go_wp2_with fail
  refine (sort_any _ _ _ _ _ _ HR.out (by omega)).mono ?_
  rintro e w2 ⟨rfl, hr2, hg2⟩
  have HR2 := Lib.hid hr2
  have HB2 := Lib.hid (HB.out.trans (grown_below hg2 HB.out.size hgB))
  have HL2 := Lib.hid (srt_len xs)
  clear hr2 hg2
  go_wp2_with fail
  refine (compact_any _ _ _ _ _ _ HR2.out (by rw [HL2.out]; omega)).mono ?_
  rintro e w3 ⟨rfl, hr3, hg3⟩
  rw [← HOL.out] at hr3
  rw [← HOL.out]
  have HR3 := Lib.hid hr3
  have HB3 := Lib.hid (HB2.out.trans (grown_below hg3 HB2.out.size hgB))
  clear hr3 hg3
  go_wp2
  go_ret
  exact ⟨gu, cu, rfl, HR3.out, HB3.out⟩

end Go.Proofs.Ytejehmplebjnmaa
