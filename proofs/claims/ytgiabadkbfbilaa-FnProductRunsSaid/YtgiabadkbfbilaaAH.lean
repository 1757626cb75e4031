/-
  Joint text of H2 Q J G2 (written by wip/tools/merge.py).
-/
import Derived.Test.YtgiabadkbfbilaaH
import Derived.Test.YtgiabadkbfbilaaK
import Derived.Test.YtgiabadkbfbilaaC
import Derived.Test.YtgiabadkbfbilaaE
import Derived.Test.YtgiabadkbfbilaaB
/- from XH2 -/
namespace Go.Proofs.Ytgiabadkbfbilaa
open Go.RowKit
set_option linter.unusedVariables false
set_option linter.unusedSimpArgs false

/-- A source of an append. -/
def Src (w : World) (u : Value) (ys : List Int) : Prop := (u = .slice none 0 0 ∧ ys = []) ∨ ∃ ad c, u = .slice (some ad) ys.length c ∧ ∀ j (h : j < ys.length), w.cell? (ad.add j) = some (.int .i64 ys[j])

theorem wpList_appS {w : World} {ops : Array Oper} {rest : List Oper} {o : Oper} {a : Act} {Q : Exit → Act → World → Prop} (hgd : o.guard = none) (s x : Operand)
    (ho : o.op = .call { callee := .builtin .append, args := #[s, x], argTypes := #[24, 24] })
    (B : Nat) (v u : Value) (xs ys : List Int) (hs : a.eval s = v) (hx : a.eval x = u) (hv : Rd w B v xs) (hu : Src w u ys)
    (hlen : xs.length + ys.length ≤ 17179869184) (hB : B ≤ w.heap.size)
    (h : ∀ v' w', Rd w' B v' (xs ++ ys) → w.grownBy w' v.ownBlock → Below B w w' → wpList Try.prog ops Q rest (a.put o.dst v') w') : wpList Try.prog ops Q (o :: rest) a w := by
  obtain ⟨i0, hi, hz0, hz1, hz2⟩ := info_parts info3
  have hbel : ∀ w', w.grownBy w' v.ownBlock → Below B w w' := fun w' hg => (Below.refl _ _).grown hg hB (fun k hk => (hv.lt k hk).1)
  rcases hu with ⟨rfl, rfl⟩ | ⟨ad, cap, rfl, hc⟩
  · refine wpList_append_own_none hgd s x 24 ho B 3 i0 1 Try.underlying24 hi v xs.length _ hs hv hx ?_
    exact h v w (by simpa using hv) (World.grownBy.refl _ _) (Below.refl _ _)
  · refine wpList_append_own w hgd s x 24 ho B 3 i0 (.int .i64 0) 1 8 Try.underlying24 hi hz0 hz1 hz2 rfl (by decide) v xs.length _ hs hv ad ys.length cap (ys.map (Value.int .i64)) hx (by simp) ?_ (ints_oneCell _ _) (by unfold maxLen; omega) (by omega) hB ?_
    · intro j q hj
      have hj' : j < ys.length := by
        have := (List.getElem?_eq_some_iff.1 hj).1
        simpa using this
      rw [hc j hj', ← hj]
      simp [hj']
    · intro v' w' h2 h3 _
      refine h v' w' ?_ h3 (hbel w' h3)
      unfold Rd
      rw [List.length_append, List.map_append]
      exact h2

theorem addr_addH (g o j : Nat) : (⟨g, o, none⟩ : Addr).add j = ⟨g, o + j, none⟩ := by
  unfold Addr.add
  split <;> simp_all

theorem Rd.take {w : World} {B g n cap : Nat} {xs : List Int} (h : Rd w B (.slice (some ⟨g, 0, none⟩) n cap) xs) (k : Nat) (hk : k ≤ xs.length) : Rd w B (.slice (some ⟨g, 0, none⟩) k cap) (xs.take k) := by
  obtain ⟨rfl, _⟩ := h.at
  rcases h.2 with ⟨h1, _⟩ | ⟨g', cap', cur, hv, hg, hh, hn, hm, hc, ht⟩
  · simp at h1
  · simp only [Value.slice.injEq, Option.some.injEq, Addr.mk.injEq, and_true, true_and] at hv
    obtain ⟨rfl, rfl⟩ := hv
    have hkl : (xs.take k).length = k := by simp; omega
    refine ⟨by simp, .inr ⟨g, cap, cur, by rw [hkl], hg, hh, by omega, hm, hc, ?_⟩⟩
    rw [hkl, Nat.mul_one, List.map_take]
    rw [Nat.mul_one] at ht
    rw [← ht, List.take_take, Nat.min_eq_left hk]

theorem src_drop {w : World} {B g n cap : Nat} {xs : List Int} (h : Rd w B (.slice (some ⟨g, 0, none⟩) n cap) xs) (q c : Nat) (o m : Nat) (hq : q ≤ xs.length) (ho : q < xs.length → o = q) (hm : m = xs.length - q) :
    Src w (.slice (some ⟨g, o, none⟩) m c) (xs.drop q) := by
  refine .inr ⟨⟨g, o, none⟩, c, by rw [List.length_drop, hm], fun j hj => ?_⟩
  have hj' : j < xs.length - q := by simpa using hj
  obtain rfl := ho (by omega)
  rw [addr_addH, h.at.2.2.2.2.1 (o + j) (by omega)]
  simp

set_option maxHeartbeats 1000000 in
theorem dgSorted_any (v : Value) (xs : List Int) (w : World) (h : Sl w v xs) (hl : xs.length ≤ 2000000) :
    Calls Try.prog 130 #[v] w fun e w' => ∃ u, e = .returned u ∧ Rd w' w.heap.size u (srt xs) ∧ Below w.heap.size w w' := by
  obtain ⟨a, cap0, rfl, hx⟩ := h
  have HX := Lib.hid hx
  clear hx
  go_enter Try.func130, Try.ntmps130
  go_wp2
  go_loopw [3, 10] (fun o i wr => ∃ (k : Nat) (out : List Int), k ≤ xs.length ∧ i = .int .i64 k ∧ Rd wr w.heap.size o out ∧ Below w.heap.size w wr ∧ out.Perm (xs.take k) ∧ out.Pairwise (· ≤ ·)) (fun _ i _ => xs.length - (intOf i).toNat)
  case atStart => exact ⟨0, [], Nat.zero_le _, rfl, Rd.nil _ _, Below.refl _ _, by simp, by simp⟩
  case round =>
    obtain ⟨k, out, hk, rfl, hr, hb, hp, hs⟩ := hrel
    have HR := Lib.hid hr
    have HB := Lib.hid hb
    have HP := Lib.hid hp
    have HS := Lib.hid hs
    have hol : out.length ≤ xs.length := by have := hp.length_eq; simp at this; omega
    clear hr hb hp hs
    obtain ⟨wo, rfl⟩ : ∃ wo : World, wo = wr := ⟨_, rfl⟩
    by_cases hlt : k < xs.length
    · rcases HX.out with hx | ⟨b, off, rfl, hbl, hc⟩
      · rw [hx] at hlt; simp at hlt
      have hcell : wo.cell? ⟨b, off + k, none⟩ = some (.int .i64 xs[k]) := (HB.out.cell (p := ⟨b, off + k, none⟩) hbl).trans (hc k hlt)
      have hsz := HB.out.size
      clear hc
      rcases HR.out.cases with ⟨rfl, rfl⟩ | ⟨g, cap, rfl, hg, hgl, hoc, hcm, hoc2, hof⟩
      · go_wp2
        refine wp_loop_rounds 1 ?_
        rw [rounds_succ]
        go_wp2_with fail
        refine (l1Own_any _ [] _ _ (Rd.nil _ 0) (by simp)).mono ?_
        rintro e w1 ⟨u, rfl, hr1, hb1⟩
        have R1 := Lib.hid (hr1.mono hsz)
        have B1 := Lib.hid (Below.step HB.out hsz hb1)
        have Z1 := hb1.size
        clear hr1 hb1
        go_wp2_with (first | (at_builtin; refine wpList_appR rfl (.tmp 31) (.tmp 33) rfl w.heap.size w.heap.size _ _ [] [xs[k]] rfl rfl (R1.out.alloc _) (Rd.litB _ _ _ (by omega)) (by simp) (by simp; omega) ?_; intro v2 w2 hr2 hg2 hb2; have R2 := Lib.hid hr2; have B2 := Lib.hid ((B1.out.alloc (by omega) _).trans hb2); have Z2 := B2.out.size; clear hr2 hg2 hb2) | (at_builtin; refine wpList_appS rfl (.tmp 35) (.tmp 38) rfl w.heap.size _ _ [xs[k]] [] rfl rfl R2.out (.inl ⟨rfl, rfl⟩) (by simp) (by omega) ?_; intro v3 w3 hr3 hg3 hb3; have R3 := Lib.hid hr3; have B3 := Lib.hid (B2.out.trans hb3); clear hr3 hg3 hb3))
        go_roundw
        case rel => exact ⟨k + 1, _, by omega, by go_num, R3.out, B3.out, by rw [take_snoc' xs k hlt]; exact (HP.out.cons xs[k]).trans (List.perm_append_singleton _ _).symm, by simp⟩
        case measure => simp [intOf]; omega
      · have HC := Lib.hid hoc2
        clear hoc2 hof
        go_wp2
        go_loop [6] (fun j => ∃ q : Nat, q ≤ out.length ∧ j = .int .i64 q ∧ Hid (∀ t (ht : t < out.length), t < q → out[t] ≤ xs[k])) (fun j => out.length - (intOf j).toNat)
        case atStart => exact ⟨0, Nat.zero_le _, rfl, Lib.hid (fun t ht h => by omega)⟩
        case round =>
          obtain ⟨q, hq, rfl, HQ⟩ := hrel
          by_cases hq1 : q < out.length
          · have hcq := HC.out q hq1
            by_cases hle : out[q] ≤ xs[k]
            · go_wp2
              go_round
              case rel => exact ⟨q + 1, by omega, by go_num, Lib.hid (fun t ht h => by by_cases e : t = q; (subst e; exact hle); exact HQ.out t ht (by omega))⟩
              case measure => simp [intOf]; omega
            · go_wp2_with fail
              have hfin : ∀ (h : q < out.length), xs[k] ≤ out[q] := fun h => by omega
              have hol2 : (out.take q).length ≤ 2000000 := by simp; omega
              refine (l1Own_any _ (out.take q) _ _ (HR.out.take q hq) hol2).mono ?_
              rintro e w1 ⟨u, rfl, hr1, hb1⟩
              have R1 := Lib.hid (hr1.mono hsz)
              have RO := Lib.hid (HR.out.keep hb1)
              have AP := Lib.hid (Rd.apart (u := .slice (some ⟨g, 0, none⟩) out.length cap) (fun k hk => by simp [Value.ownBlock] at hk; omega) hr1)
              have B1 := Lib.hid (Below.step HB.out hsz hb1)
              have Z1 := hb1.size
              clear hr1 hb1
              go_wp2_with (first | (at_builtin; refine wpList_appR rfl (.tmp 31) (.tmp 33) rfl w.heap.size w.heap.size _ _ (out.take q) [xs[k]] rfl rfl (R1.out.alloc _) (Rd.litB _ _ _ (by omega)) (by simp; omega) (by simp; omega) ?_; intro v2 w2 hr2 hg2 hb2; have R2 := Lib.hid hr2; have RO2 := Lib.hid ((RO.out.alloc _).grown hg2 AP.out); have B2 := Lib.hid ((B1.out.alloc (by omega) _).trans hb2); have Z2 := B2.out.size; clear hr2 hg2 hb2) | (at_builtin; refine wpList_appS rfl (.tmp 35) (.tmp 38) rfl w.heap.size _ _ (out.take q ++ [xs[k]]) (out.drop q) rfl rfl R2.out (src_drop RO2.out q _ _ _ hq (fun h => by first | rfl | omega) (by omega)) (by simp; omega) (by omega) ?_; intro v3 w3 hr3 hg3 hb3; have R3 := Lib.hid hr3; have B3 := Lib.hid (B2.out.trans hb3); clear hr3 hg3 hb3))
              go_roundw
              case rel => exact ⟨k + 1, _, by omega, by go_num, R3.out, B3.out, by rw [take_snoc' xs k hlt]; exact ((ins_perm out xs[k] q).trans (HP.out.cons _)).trans (List.perm_append_singleton _ _).symm, ins_sorted out xs[k] q hq HS.out (fun j hj h => HQ.out j hj h) hfin⟩
              case measure => simp [intOf]; omega
          · go_wp2_with fail
            have hfin : ∀ (h : q < out.length), xs[k] ≤ out[q] := fun h => by omega
            have hol2 : (out.take q).length ≤ 2000000 := by simp; omega
            refine (l1Own_any _ (out.take q) _ _ (HR.out.take q hq) hol2).mono ?_
            rintro e w1 ⟨u, rfl, hr1, hb1⟩
            have R1 := Lib.hid (hr1.mono hsz)
            have RO := Lib.hid (HR.out.keep hb1)
            have AP := Lib.hid (Rd.apart (u := .slice (some ⟨g, 0, none⟩) out.length cap) (fun k hk => by simp [Value.ownBlock] at hk; omega) hr1)
            have B1 := Lib.hid (Below.step HB.out hsz hb1)
            have Z1 := hb1.size
            clear hr1 hb1
            by_cases hcl : q < cap
            all_goals
              go_wp2_with (first | (at_builtin; refine wpList_appR rfl (.tmp 31) (.tmp 33) rfl w.heap.size w.heap.size _ _ (out.take q) [xs[k]] rfl rfl (R1.out.alloc _) (Rd.litB _ _ _ (by omega)) (by simp; omega) (by simp; omega) ?_; intro v2 w2 hr2 hg2 hb2; have R2 := Lib.hid hr2; have RO2 := Lib.hid ((RO.out.alloc _).grown hg2 AP.out); have B2 := Lib.hid ((B1.out.alloc (by omega) _).trans hb2); have Z2 := B2.out.size; clear hr2 hg2 hb2) | (at_builtin; refine wpList_appS rfl (.tmp 35) (.tmp 38) rfl w.heap.size _ _ (out.take q ++ [xs[k]]) (out.drop q) rfl rfl R2.out (src_drop RO2.out q _ _ _ hq (fun h => by first | rfl | omega) (by omega)) (by simp; omega) (by omega) ?_; intro v3 w3 hr3 hg3 hb3; have R3 := Lib.hid hr3; have B3 := Lib.hid (B2.out.trans hb3); clear hr3 hg3 hb3))
              go_roundw
              case rel => exact ⟨k + 1, _, by omega, by go_num, R3.out, B3.out, by rw [take_snoc' xs k hlt]; exact ((ins_perm out xs[k] q).trans (HP.out.cons _)).trans (List.perm_append_singleton _ _).symm, ins_sorted out xs[k] q hq HS.out (fun j hj h => HQ.out j hj h) hfin⟩
              case measure => simp [intOf]; omega
    · obtain rfl : k = xs.length := by omega
      go_wp2
      go_ret
      exact ⟨_, rfl, by rw [← srt_unique (by have := HP.out; rw [List.take_of_length_le (Nat.le_refl _)] at this; exact this) HS.out]; exact HR.out, HB.out⟩

end Go.Proofs.Ytgiabadkbfbilaa

/- from XQ -/
namespace Go.Proofs.Ytgiabadkbfbilaa
open Go.RowKit
set_option linter.unusedVariables false
set_option linter.unusedSimpArgs false

/-- One more of digit d. -/
def bump (ys : List Int) (d : Int) : List Int := ys.set d.toNat (ys.getD d.toNat 0 + 1)
def cntF : List Int → List Int → List Int
  | [], ys => ys
  | d :: ds, ys => cntF ds (bump ys d)
/-- How often each digit below b comes. -/
def cntD (b : Int) (xs : List Int) : List Int := cntF xs (List.replicate b.toNat 0)

theorem cntF_step (xs : List Int) (k : Nat) (ys : List Int) (h : k < xs.length) : cntF (xs.drop k) ys = cntF (xs.drop (k + 1)) (bump ys xs[k]) := by
  rw [drop_cons xs k h]; rfl
theorem bump_len (ys : List Int) (d : Int) : (bump ys d).length = ys.length := by simp [bump]
theorem cntF_len (xs : List Int) : ∀ ys, (cntF xs ys).length = ys.length := by
  induction xs with
  | nil => intro ys; rfl
  | cons d ds ih => intro ys; rw [cntF, ih, bump_len]
theorem cnt_len (b : Int) (xs : List Int) : (cntD b xs).length = b.toNat := by simp [cntD, cntF_len]

theorem bump_bd (ys : List Int) (d : Int) (m : Int) (h : ∀ y ∈ ys, 0 ≤ y ∧ y ≤ m) (hm : 0 ≤ m) : ∀ y ∈ bump ys d, 0 ≤ y ∧ y ≤ m + 1 := by
  intro y hy
  rcases List.mem_or_eq_of_mem_set hy with hy | rfl
  · have := h y hy; omega
  · by_cases hd : d.toNat < ys.length
    · have h1 : ys.getD d.toNat 0 = ys[d.toNat] := by simp [hd]
      have := h _ (List.getElem_mem hd)
      rw [h1]; omega
    · have h1 : ys.getD d.toNat 0 = 0 := by simp [Nat.not_lt.1 hd]
      rw [h1]; omega

theorem bump_nat (ys : List Int) (d : Nat) (h : d < ys.length) : bump ys (d : Int) = ys.set d (ys[d] + 1) := by
  simp [bump, h]

end Go.Proofs.Ytgiabadkbfbilaa

/- from XJ -/
namespace Go.Proofs.Ytgiabadkbfbilaa
open Go.RowKit
set_option linter.unusedVariables false
set_option linter.unusedSimpArgs false

def RSortedUp (b n : Int) : Option Int := numF b (srt (dgs b n)) 0
def RSortedDown (b n : Int) : Option Int := numF b (srt (dgs b n)).reverse 0
def LDigitCounts (b n : Int) : List Int := cntD b (dgs b n)

theorem srt_all {b n : Int} (h : ∀ x ∈ dgs b n, 0 ≤ x ∧ x ≤ b - 1) : ∀ x ∈ srt (dgs b n), 0 ≤ x ∧ x ≤ b - 1 := fun x hx => h x (srt_mem.1 hx)
theorem srtr_all {b n : Int} (h : ∀ x ∈ dgs b n, 0 ≤ x ∧ x ≤ b - 1) : ∀ x ∈ (srt (dgs b n)).reverse, 0 ≤ x ∧ x ≤ b - 1 := fun x hx => h x (srt_mem.1 (List.mem_reverse.1 hx))

theorem sortedUp_any (n b : Int) (w : World) (h0 : 0 ≤ n) (h1 : n ≤ 1000000000000) (hb : 2 ≤ b) (hb' : b ≤ 16) :
    Calls Try.prog 100 #[.int .i64 b, .int .i64 n] w fun e w' => e = .returned (optRes (RSortedUp b n)) ∧ Below w.heap.size w w' := by
  have hall := Lib.hid (srt_all (dgs_all b n hb h0))
  have hlen := Lib.hid (dgs_len40 b n hb h0 h1)
  have hls := Lib.hid (srt_len (dgs b n))
  go_enter Try.func100, Try.ntmps100
  go_wp2_with fail
  refine (digits_any _ _ _ h0 (by omega) hb hb').mono ?_
  rintro e w1 ⟨g, cap, rfl, hr, hbl⟩
  have HB := Lib.hid hbl
  have HR := Lib.hid hr
  have hg := hr.at.2.1
  clear hbl hr
  go_wp2_with fail
  refine (sort_any _ _ _ _ _ _ HR.out (by have := hlen.out; omega)).mono ?_
  rintro e w2 ⟨rfl, hr, hgr⟩
  have HR2 := Lib.hid hr
  have HB2 := Lib.hid (HB.out.trans (grown_below hgr HB.out.size hg))
  clear hr hgr
  go_wp2_with fail
  refine (number_any _ _ _ _ _ HR2.out (fun x hx => by have := hall.out x hx; omega) hb hb' (by rw [hls.out]; have := hlen.out; omega)).mono ?_
  rintro e w3 ⟨rfl, rfl⟩
  go_wp2
  go_ret2
  exact ⟨rfl, HB2.out⟩

end Go.Proofs.Ytgiabadkbfbilaa

/- from XG2 -/
namespace Go.Proofs.Ytgiabadkbfbilaa
open Go.RowKit
set_option linter.unusedVariables false
set_option linter.unusedSimpArgs false


theorem tell_sortedUp (n b : Int) (w : World) :
    Calls Try.prog 99 #[.int .i64 n, .int .i64 b, .func (Fn.func 100) #[] #[]] w fun e w' => e = .returned (optRes (askF RSortedUp n b)) ∧ Below w.heap.size w w' := by
  by_cases hn : Num n
  · have a1 : decide (Num n) = true := decide_eq_true hn
    by_cases hB : Bas b
    · have a2 : decide (Bas b) = true := decide_eq_true hB
      have hR := Lib.hid (show askF RSortedUp n b = RSortedUp b n from if_pos ⟨hn, hB⟩)
      obtain ⟨n0, n1⟩ := hn
      obtain ⟨b0, b1⟩ := hB
      go_enter Try.func99, Try.ntmps99
      go_wp2_with (first | (go_at_call 140; refine (isNumber_any _ _).mono ?_; rintro e w1 ⟨rfl, rfl⟩) | (go_at_call 111; refine (isBase_any _ _).mono ?_; rintro e w1 ⟨rfl, rfl⟩) | (go_at_call 100; refine (sortedUp_any _ _ _ n0 n1 b0 b1).mono ?_; rintro e w1 ⟨rfl, hbl⟩; have HB := Lib.hid hbl; clear hbl))
      go_ret2
      exact ⟨by rw [hR.out]; rfl, HB.out⟩
    · have a2 : decide (Bas b) = false := decide_eq_false hB
      have hR := Lib.hid (show askF RSortedUp n b = none from if_neg (fun h => hB h.2))
      clear hn hB
      go_enter Try.func99, Try.ntmps99
      go_wp2_with (first | (go_at_call 140; refine (isNumber_any _ _).mono ?_; rintro e w1 ⟨rfl, rfl⟩) | (go_at_call 111; refine (isBase_any _ _).mono ?_; rintro e w1 ⟨rfl, rfl⟩))
      go_ret2
      exact ⟨by rw [hR.out]; rfl, Below.refl _ _⟩
  · have a1 : decide (Num n) = false := decide_eq_false hn
    have hR := Lib.hid (show askF RSortedUp n b = none from if_neg (fun h => hn h.1))
    clear hn
    go_enter Try.func99, Try.ntmps99
    go_wp2_with (first | (go_at_call 140; refine (isNumber_any _ _).mono ?_; rintro e w1 ⟨rfl, rfl⟩) | (go_at_call 111; refine (isBase_any _ _).mono ?_; rintro e w1 ⟨rfl, rfl⟩))
    go_ret2
    exact ⟨by rw [hR.out]; rfl, Below.refl _ _⟩

theorem impl_SortedUp (n b : Int) (w : World) :
    Calls Try.prog 36 #[.int .i64 n, .int .i64 b] w fun e w' => e = .returned (optRes (askF RSortedUp n b)) ∧ Below w.heap.size w w' := by
  go_enter Try.func36, Try.ntmps36
  go_wp2_with (go_at_call 99; refine (tell_sortedUp _ _ _).mono ?_; rintro e w1 ⟨rfl, hbl⟩; have HB := Lib.hid hbl; clear hbl)
  go_ret2
  exact ⟨rfl, HB.out⟩

theorem askL_cnt_len (n b : Int) : (askL LDigitCounts n b).length ≤ 2000000 := by
  unfold askL
  split
  · rename_i h; have := h.2.2; rw [LDigitCounts, cnt_len]; omega
  · simp

end Go.Proofs.Ytgiabadkbfbilaa
