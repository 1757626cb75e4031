/-
  LeastWith: the program.
-/
import Derived.Test.YtecnalkjlilgmabLP
import Derived.Test.YtecnalkjlilgmabRP
import Derived.Test.YtecnalkjlilgmabN
namespace Go.Proofs.Ytecnalkjlilgmab
open Go.RowKit
set_option linter.unusedVariables false
set_option linter.unusedSimpArgs false

theorem areCounts_any (v : Value) (xs : List Int) (b : Int) (B : Nat) (w : World) (h : Rd w B v xs) (hb : 2 ≤ b) (hb' : b ≤ 16) (hl : xs.length ≤ 2000000) :
    Calls Try.prog 29 #[.int .i64 b, v] w fun e w' => e = .returned (.bool (decide ((xs.length : Int) = b) && allIn 0 40 xs)) ∧ w = w' := by
  obtain ⟨a, cap, rfl, hx⟩ := h.sl
  have HX := Lib.hid hx
  clear hx h
  by_cases hne : (xs.length : Int) = b
  · have hn := bne_no hne
    have HD := Lib.hid (show (decide ((xs.length : Int) = b) && allIn 0 40 xs) = allIn 0 40 xs by simp [hne])
    clear hne
    go_enter Try.func29, Try.ntmps29
    go_wp2
    go_loop [13] (fun i => ∃ k : Nat, k ≤ xs.length ∧ i = .int .i64 k ∧ allIn 0 40 (xs.take k) = true) (fun i => xs.length - (intOf i).toNat)
    case atStart => exact ⟨0, Nat.zero_le _, rfl, rfl⟩
    case round =>
      obtain ⟨k, hk, rfl, hp⟩ := hrel
      have hp' := Lib.hid hp
      clear hp
      by_cases hlt : k < xs.length
      · rcases HX.out with hx | ⟨p, off, rfl, hbl, hc⟩
        · rw [hx] at hlt; simp at hlt
        have hcell := hc k hlt
        clear hc
        by_cases hin : 0 ≤ xs[k] ∧ xs[k] ≤ 40
        · obtain ⟨i1, i2⟩ := hin
          go_wp2
          go_round
          case rel => exact ⟨k + 1, by omega, by go_num, allIn_take 0 40 xs k hlt hp'.out i1 i2⟩
          case measure => simp [intOf]; omega
        · have H := Lib.hid (show xs[k] < 0 ∨ 40 < xs[k] by omega)
          have hf := Lib.hid (allIn_bad 0 40 xs k hlt H.out)
          by_cases hneg : xs[k] < 0
          all_goals
            have hge : ¬ xs[k] < 0 → 40 < xs[k] := fun h => by omega
            first | replace hge := hge hneg | clear hge
            clear hin
            go_wp2
            go_ret
            exact ⟨ret_bool (by rw [HD.out, hf.out]), rfl⟩
      · obtain rfl : k = xs.length := by omega
        go_wp2
        go_ret
        exact ⟨ret_bool (by have := hp'.out; rw [List.take_of_length_le (Nat.le_refl _)] at this; rw [HD.out, this]), rfl⟩
  · have hn := bne_yes hne
    have HD := Lib.hid (show (decide ((xs.length : Int) = b) && allIn 0 40 xs) = false by simp [hne])
    clear hne
    go_enter Try.func29, Try.ntmps29
    go_wp2
    go_ret
    exact ⟨ret_bool HD.out.symm, rfl⟩

set_option maxHeartbeats 1000000 in
theorem leastWith_any (v : Value) (c0 : Nat) (tl : List Nat) (b : Int) (B : Nat) (w : World) (h : Rd w B v (ints (c0 :: tl))) (hb : 2 ≤ b) (hb' : b ≤ 16) (hlen0 : ((c0 :: tl).length : Int) = b) (hall0 : ∀ c ∈ c0 :: tl, c ≤ 40) :
    Calls Try.prog 30 #[.int .i64 b, v] w fun e w' => e = .returned (optRes (RLeast b (c0 :: tl))) ∧ Below w.heap.size w w' := by
  rcases h.cases with ⟨_, hx⟩ | ⟨g, cap, rfl, hg, hgw, hcap, _, hc, _⟩
  · simp [ints] at hx
  obtain ⟨cs, hcs⟩ : ∃ cs, cs = c0 :: tl := ⟨_, rfl⟩
  have HCS := Lib.hid hcs
  have hclen : cs.length ≤ 16 := by rw [hcs]; omega
  have hclen1 : 1 ≤ cs.length := by rw [hcs]; simp
  have HLB := Lib.hid (show (cs.length : Int) = b by rw [hcs]; exact hlen0)
  have HAll := Lib.hid (show ∀ c ∈ cs, c ≤ 40 by rw [hcs]; exact hall0)
  rw [← hcs] at hc
  have HL := Lib.hid (show (ints (c0 :: tl)).length = cs.length by rw [hcs, ints_len])
  have HC := Lib.hid hc
  rw [HL.out]
  have hsum : (flat cs 0).length ≤ 640 := by
    rw [flat_len]
    have h1 : ∀ l : List Nat, (∀ c ∈ l, c ≤ 40) → l.sum ≤ l.length * 40 := by
      intro l
      induction l with
      | nil => intro _; simp
      | cons a t ih =>
        intro h
        have h1 := h a (by simp)
        have h2 := ih (fun c hc => h c (by simp [hc]))
        simp only [List.sum_cons, List.length_cons, Nat.add_mul]
        omega
    have := h1 cs HAll.out
    omega
  have hc0c : w.cell? ⟨g, 0, none⟩ = some (.int .i64 (c0 : Int)) := by
    rw [hc 0 (by rw [ints_len]; omega), ints_at]
    subst hcs
    rfl
  clear h hcs hc hlen0 hall0 hcap
  go_enter Try.func30, Try.ntmps30
  go_wp2
  go_loopw [6, 12] (fun o i wr => ∃ (k : Nat) (out : List Int), k ≤ cs.length ∧ i = .int .i64 k ∧ Rd wr w.heap.size o out ∧ Below w.heap.size w wr ∧ out ++ flat (cs.drop k) k = flat cs 0) (fun _ i _ => cs.length - (intOf i).toNat)
  case atStart => exact ⟨0, [], Nat.zero_le _, rfl, Rd.nil _ _, Below.refl _ _, rfl⟩
  case round =>
    obtain ⟨k, out, hk, rfl, hr, hb1, ho⟩ := hrel
    have HR := Lib.hid hr
    have HB := Lib.hid hb1
    have HO := Lib.hid ho
    have hol : out.length ≤ 640 := by have := congrArg List.length ho; simp at this; omega
    have hsz := hb1.size
    clear hr hb1 ho
    by_cases hlt : k < cs.length
    · obtain ⟨q, hq⟩ : ∃ q, q = cs[k] := ⟨_, rfl⟩
      have hq40 : q ≤ 40 := by rw [hq]; exact HAll.out _ (List.getElem_mem hlt)
      have hcell : wr.cell? ⟨g, k, none⟩ = some (.int .i64 (q : Int)) := by
        rw [HB.out.cell (p := ⟨g, k, none⟩) hgw, HC.out k (by rw [ints_len]; omega), ints_at, hq]
      have HF := Lib.hid (show flat (cs.drop k) k = List.replicate q (k : Int) ++ flat (cs.drop (k + 1)) (k + 1) by rw [hq]; exact flat_step cs k k hlt)
      clear hq
      go_wp2_with fail
      refine (repeat_any _ _ q _ (k : Int) _ (Rd.lit _ _) hq40).mono ?_
      rintro e w1 ⟨u, rfl, hr1, hb1⟩
      have R1 := Lib.hid hr1
      have RO := Lib.hid ((HR.out.alloc _).keep hb1)
      have B1 := Lib.hid (Below.step (HB.out.alloc hsz _) (by simp; omega) hb1)
      clear hr1 hb1
      have hsz1 := B1.out.size
      go_wp2_with (at_builtin; refine wpList_appR rfl _ _ rfl w.heap.size _ _ _ out (List.replicate q (k : Int)) rfl rfl RO.out R1.out (by simp; omega) (by omega) ?_; intro v2 w2 hr2 hg2 hb2; have R2 := Lib.hid hr2; have B2 := Lib.hid (B1.out.trans hb2); clear hr2 hg2 hb2)
      go_roundw
      case rel => exact ⟨k + 1, _, by omega, by go_num, R2.out, B2.out, by rw [← HO.out, HF.out, List.append_assoc]⟩
      case measure => simp [intOf]; omega
    · obtain rfl : k = cs.length := by omega
      have HOF := Lib.hid (show out = flat cs 0 by have := HO.out; rw [List.drop_length] at this; simpa [flat] using this)
      have hcell : wr.cell? ⟨g, 0, none⟩ = some (.int .i64 (c0 : Int)) := by rw [HB.out.cell (p := ⟨g, 0, none⟩) hgw]; exact hc0c
      have HFC := Lib.hid (show flat cs 0 = List.replicate c0 0 ++ flat tl 1 by rw [HCS.out]; rfl)
      cases hT : flat tl 1 with
      | nil =>
        have HRES := Lib.hid (least_prog0 b hb c0 tl hT)
        have HOUT := Lib.hid (show out = List.replicate c0 0 by rw [HOF.out, HFC.out, hT, List.append_nil])
        have hol2 : c0 ≤ out.length ∧ out.length ≤ c0 := by rw [HOUT.out]; simp
        obtain ⟨o1, o2⟩ := hol2
        obtain ⟨ao, co, rfl⟩ := HR.out.shape
        have HRR := Lib.hid (show Rd wr w.heap.size (.slice ao out.length co) (List.replicate c0 0) by have := HR.out; rw [HOUT.out] at this ⊢; exact this)
        clear hT
        go_wp2_with fail
        refine (numberOf_any _ _ _ _ _ HRR.out hb hb' (by simp; omega)).mono ?_
        rintro e w3 ⟨rfl, rfl⟩
        rw [HRES.out]
        go_wp2
        go_ret2
        exact ⟨rfl, HB.out⟩
      | cons f t =>
        have HRES := Lib.hid (least_prog b hb c0 tl f t (by rw [← HCS.out]; exact HLB.out) hT)
        have HOUT := Lib.hid (show out = List.replicate c0 0 ++ f :: t by rw [HOF.out, HFC.out, hT])
        have hol2 : c0 < out.length := by rw [HOUT.out]; simp
        clear hT
        rcases HR.out.cases with ⟨_, hx⟩ | ⟨g2, cap2, rfl, hg2, _, _, _, hc2, hf2⟩
        · rw [hx] at hol2; simp at hol2
        have hcf : wr.cell? ⟨g2, c0, none⟩ = some (.int .i64 f) := by
          rw [hc2 c0 hol2]
          have h3 : out[c0]? = some f := by rw [HOUT.out, List.getElem?_append_right (by simp)]; simp
          rw [List.getElem?_eq_getElem hol2] at h3
          rw [Option.some.inj h3]
        have hff := hf2 c0
        have hf0 := hf2 0
        have HSW := Lib.hid (swap_first c0 f t)
        have hpos2 : 0 < out.length := by omega
        have HSET := Lib.hid ((HR.out.set 0 f).1)
        have HG := Lib.hid ((HR.out.set 0 f).2)
        rcases Nat.eq_zero_or_pos c0 with hz | hz
        · subst hz
          have HSET2 := Lib.hid (show Rd ((wr.setCell ⟨g2, 0, none⟩ (.int .i64 f)).setCell ⟨g2, 0, none⟩ (.int .i64 f)) w.heap.size (.slice (some ⟨g2, 0, none⟩) out.length cap2) (f :: (List.replicate 0 0 ++ t)) by
            have h5 := (HSET.out.set 0 f).1
            rw [← HSW.out, if_pos rfl, ← HOUT.out]
            exact h5)
          have HG2 := Lib.hid (grown_trans HG.out (HSET.out.set 0 f).2)
          clear hc2 hf2
          go_wp2
          go_region
          have HB2 := Lib.hid (HB.out.trans (grown_below HG2.out hsz hg2))
          have hlf := Lib.hid (show (f :: (List.replicate 0 0 ++ t)).length ≤ 1000000 by
            have := congrArg List.length HOUT.out
            simp at this ⊢
            omega)
          go_wp2_with fail
          refine (numberOf_any _ _ _ _ _ HSET2.out.drew hb hb' hlf.out).mono ?_
          rintro e w3 ⟨rfl, rfl⟩
          rw [HRES.out]
          go_wp2
          go_ret2
          exact ⟨rfl, HB2.out.drew⟩
        · have hz0 : wr.cell? ⟨g2, 0, none⟩ = some (.int .i64 0) := by
            rw [hc2 0 hpos2]
            have h3 : out[0]? = some 0 := by rw [HOUT.out, List.getElem?_append_left (by simp; exact hz)]; simp [List.getElem?_replicate, hz]
            rw [List.getElem?_eq_getElem hpos2] at h3
            rw [Option.some.inj h3]
          have hne : c0 ≠ 0 := by omega
          have HSET2 := Lib.hid (show Rd ((wr.setCell ⟨g2, 0, none⟩ (.int .i64 f)).setCell ⟨g2, c0, none⟩ (.int .i64 0)) w.heap.size (.slice (some ⟨g2, 0, none⟩) out.length cap2) (f :: (List.replicate c0 0 ++ t)) by
            have h5 := (HSET.out.set c0 0).1
            rw [← HSW.out, if_neg hne, ← HOUT.out]
            exact h5)
          have HG2 := Lib.hid (grown_trans HG.out (HSET.out.set c0 0).2)
          clear hc2 hf2
          go_wp2
          go_region
          have HB2 := Lib.hid (HB.out.trans (grown_below HG2.out hsz hg2))
          have hlf := Lib.hid (show (f :: (List.replicate c0 0 ++ t)).length ≤ 1000000 by
            have := congrArg List.length HOUT.out
            simp at this ⊢
            omega)
          go_wp2_with fail
          refine (numberOf_any _ _ _ _ _ HSET2.out.drew hb hb' hlf.out).mono ?_
          rintro e w3 ⟨rfl, rfl⟩
          rw [HRES.out]
          go_wp2
          go_ret2
          exact ⟨rfl, HB2.out.drew⟩

end Go.Proofs.Ytecnalkjlilgmab
