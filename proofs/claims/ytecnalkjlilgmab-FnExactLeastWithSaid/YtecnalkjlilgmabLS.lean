/-
  LeastWith: the model, the law.
-/
import Derived.Test.YtecnalkjlilgmabLW
namespace Go.Proofs.Ytecnalkjlilgmab
open Go.RowKit
set_option linter.unusedVariables false
set_option linter.unusedSimpArgs false

/-- What LeastWith answers. -/
def RLeastWith (b : Int) (xs : List Int) : Option Int := if Bas b ∧ (xs.length : Int) = b ∧ allIn 0 40 xs = true then RLeast b (xs.map Int.toNat) else none

theorem as_nats {b : Int} {xs : List Int} (hB : Bas b) (hl : (xs.length : Int) = b) (ha : allIn 0 40 xs = true) :
    ∃ (c0 : Nat) (tl : List Nat), xs = ints (c0 :: tl) ∧ ((c0 :: tl).length : Int) = b ∧ (∀ c ∈ c0 :: tl, c ≤ 40) ∧ RLeastWith b xs = RLeast b (c0 :: tl) := by
  have hall := (allIn_iff _ _ _).1 ha
  have hback := ints_back xs (fun x hx => (hall x hx).1)
  have hb := hB.1
  cases hc : xs.map Int.toNat with
  | nil =>
    have := congrArg List.length hc
    simp at this
    subst this
    simp at hl
    omega
  | cons c tl =>
    rw [hc] at hback
    refine ⟨c, tl, hback.symm, ?_, ?_, ?_⟩
    · rw [← hl, ← hback, ints_len]
    · intro q hq
      have : (q : Int) ∈ xs := by rw [← hback]; exact List.mem_map.2 ⟨q, hq, rfl⟩
      have := hall _ this
      omega
    · rw [RLeastWith, if_pos ⟨hB, hl, ha⟩, hc]

theorem impl_LeastWith (v : Value) (xs : List Int) (b : Int) (B : Nat) (w : World) (h : Rd w B v xs) (hl : xs.length ≤ 1048576) :
    Calls Try.prog 11 #[v, .int .i64 b] w fun e w' => e = .returned (optRes (RLeastWith b xs)) ∧ Below w.heap.size w w' := by
  have H := Lib.hid h
  clear h
  by_cases hB : Bas b
  · have a1 : decide (Bas b) = true := decide_eq_true hB
    have b0 := hB.1
    have b1 := hB.2
    by_cases ha : (decide ((xs.length : Int) = b) && allIn 0 40 xs) = true
    · obtain ⟨h1, h2⟩ : (xs.length : Int) = b ∧ allIn 0 40 xs = true := by simpa using ha
      obtain ⟨c0, tl, hx, hlen, hall, hR⟩ := as_nats hB h1 h2
      have HR := Lib.hid hR
      have HX := Lib.hid (show Rd w B v (ints (c0 :: tl)) by rw [← hx]; exact H.out)
      have HLEN := Lib.hid hlen
      have HALL := Lib.hid hall
      have HA := Lib.hid ha
      clear hB h1 h2 hx hlen hall hR ha
      go_enter Try.func11, Try.ntmps11
      go_wp2_with (first | (go_at_call 28; refine (isBase_any _ _).mono ?_; rintro e w' ⟨rfl, rfl⟩) | (go_at_call 29; refine (areCounts_any _ _ _ _ _ H.out b0 b1 (by omega)).mono ?_; rintro e w' ⟨rfl, rfl⟩; rw [HA.out]) | (go_at_call 30; refine (leastWith_any _ _ _ _ _ _ HX.out b0 b1 HLEN.out HALL.out).mono ?_; rintro e w' ⟨rfl, hbl⟩; have HB := Lib.hid hbl; clear hbl))
      go_ret2
      exact ⟨by rw [HR.out]; rfl, HB.out⟩
    · have ha' : (decide ((xs.length : Int) = b) && allIn 0 40 xs) = false := by simpa using ha
      have HA := Lib.hid ha'
      have hR := Lib.hid (show RLeastWith b xs = none from if_neg (fun h => ha (by simp [h.2.1, h.2.2])))
      clear hB ha ha'
      go_enter Try.func11, Try.ntmps11
      go_wp2_with (first | (go_at_call 28; refine (isBase_any _ _).mono ?_; rintro e w' ⟨rfl, rfl⟩) | (go_at_call 29; refine (areCounts_any _ _ _ _ _ H.out b0 b1 (by omega)).mono ?_; rintro e w' ⟨rfl, rfl⟩; rw [HA.out]))
      go_ret2
      exact ⟨by rw [hR.out]; rfl, Below.refl _ _⟩
  · have a1 : decide (Bas b) = false := decide_eq_false hB
    have hR := Lib.hid (show RLeastWith b xs = none from if_neg (fun h => hB h.1))
    clear hB
    go_enter Try.func11, Try.ntmps11
    go_wp2_with (first | (go_at_call 28; refine (isBase_any _ _).mono ?_; rintro e w' ⟨rfl, rfl⟩))
    go_ret2
    exact ⟨by rw [hR.out]; rfl, Below.refl _ _⟩

theorem ints_bd (cs : List Nat) (h : ∀ c ∈ cs, c ≤ 40) : ∀ x ∈ ints cs, 0 ≤ x ∧ x ≤ 1000000 := by
  intro x hx
  obtain ⟨q, hq, rfl⟩ := List.mem_map.1 hx
  have := h q hq
  omega

/-- No digit but zeros. -/
theorem all_zero (c0 : Nat) (tl : List Nat) (h : ∀ j (hj : j < (c0 :: tl).length), 1 ≤ j → (c0 :: tl)[j] = 0) : flat tl 1 = [] :=
  flat_none tl 1 (fun j hj => by have := h (j + 1) (by simpa using hj) (by omega); simpa using this)

theorem one_zero {c0 : Nat} {tl : List Nat} (hs : (c0 :: tl).sum = 1) (hc : c0 = 1) : lead (c0 :: tl) = [0] := by
  have h0 : tl.sum = 0 := by simp at hs; omega
  have h1 : flat tl 1 = [] := List.eq_nil_of_length_eq_zero (by rw [flat_len]; exact h0)
  rw [lead_nil h1, if_pos hc]

theorem no_lead {c0 : Nat} {tl : List Nat} (h : flat tl 1 = []) (hn : ¬ ((c0 :: tl).sum = 1 ∧ c0 = 1)) : lead (c0 :: tl) = [] := by
  rw [lead_nil h, if_neg]
  intro hc
  refine hn ⟨?_, hc⟩
  have := flat_len tl 1
  rw [h] at this
  simp at this ⊢
  omega

/-- The model's list: the first digit, and what is left of all. -/
theorem lead_first {c0 : Nat} {tl : List Nat} {p : Nat} (hp : p < (c0 :: tl).length) (h1 : 1 ≤ p) (h : ∀ j (hj : j < (c0 :: tl).length), 1 ≤ j → j < p → (c0 :: tl)[j] = 0) (hpos : 0 < (c0 :: tl)[p]) :
    lead (c0 :: tl) = (p : Int) :: flat ((c0 :: tl).set p ((c0 :: tl)[p] - 1)) 0 := by
  obtain ⟨q, rfl⟩ : ∃ q, p = q + 1 := ⟨p - 1, by omega⟩
  have hq : q < tl.length := by simpa using hp
  have := flat_first tl 1 q hq (fun j hj hjq => by have := h (j + 1) (by simpa using hj) (by omega) (by omega); simpa using this) (by simpa using hpos)
  rw [lead_cons this]
  simp [flat]
  omega

set_option maxHeartbeats 1000000 in
theorem dgLeast_any (v : Value) (c0 : Nat) (tl : List Nat) (B : Nat) (w : World) (h : Rd w B v (ints (c0 :: tl))) (hlen : (c0 :: tl).length ≤ 16) (hall0 : ∀ c ∈ c0 :: tl, c ≤ 40) (hsum : (c0 :: tl).sum ≤ 40) :
    Calls Try.prog 26 #[v] w fun e w' => ∃ u, e = .returned u ∧ Rd w' w.heap.size u (lead (c0 :: tl)) ∧ Below w.heap.size w w' := by
  rcases h.cases with ⟨_, hx⟩ | ⟨g, cap, rfl, hg, hgw, hcap, _, hc, _⟩
  · simp [ints] at hx
  obtain ⟨cs, hcs⟩ : ∃ cs, cs = c0 :: tl := ⟨_, rfl⟩
  have HBD := Lib.hid (ints_bd _ hall0)
  have HSUMI := Lib.hid (ints_sum (c0 :: tl))
  rw [← hcs] at hlen hall0 hsum h hc HBD HSUMI ⊢
  have HCS := Lib.hid hcs
  have hclen1 : 1 ≤ cs.length := by rw [hcs]; simp
  have HAll := Lib.hid hall0
  have HL := Lib.hid (ints_len cs)
  have HC := Lib.hid hc
  have HRD := Lib.hid (show Rd w B (.slice (some ⟨g, 0, none⟩) cs.length cap) (ints cs) by have := h; rw [HL.out] at this; exact this)
  have hc0c : w.cell? ⟨g, 0, none⟩ = some (.int .i64 (c0 : Int)) := by
    rw [hc 0 (by rw [ints_len]; omega), ints_at]
    subst hcs
    rfl
  rw [HL.out]
  obtain ⟨s, hs⟩ : ∃ s, s = cs.sum := ⟨_, rfl⟩
  have HSUM2 := Lib.hid (show (ints cs).sum = (s : Int) by rw [HSUMI.out, hs])
  rw [← hs] at hsum
  have HSS := Lib.hid hs
  clear HSUMI
  clear h hcs hc hall0 hcap hs
  by_cases hone : s = 1 ∧ c0 = 1
  · have e1 : ((s : Int) == 1) = true := beq_yes (by omega)
    have e2 : ((c0 : Int) == 1) = true := beq_yes (by omega)
    have HLead := Lib.hid (show lead cs = [0] by rw [HCS.out]; exact one_zero (by rw [← HCS.out, ← HSS.out]; exact hone.1) hone.2)
    clear hone
    go_enter Try.func26, Try.ntmps26
    go_wp2_with fail
    refine (dgSum_any _ _ _ _ HRD.out HBD.out (by rw [HL.out]; omega)).mono ?_
    rintro e w1 ⟨rfl, rfl⟩
    rw [HSUM2.out]
    go_wp2
    go_ret
    exact ⟨_, rfl, by rw [HLead.out]; exact Rd.lit _ _, (Below.refl _ _).alloc (Nat.le_refl _) _⟩
  · have HNO := Lib.hid (show ¬ ((c0 :: tl).sum = 1 ∧ c0 = 1) by rw [← HCS.out, ← HSS.out]; exact hone)
    by_cases hs1 : s = 1
    all_goals
      have e1 : ((s : Int) == 1) = decide (s = 1) := by
        by_cases h : s = 1
        · rw [beq_yes (show (s : Int) = 1 by omega), decide_eq_true h]
        · rw [beq_no (show (s : Int) ≠ 1 by omega), decide_eq_false h]
      first
        | (rw [decide_eq_true hs1] at e1)
        | (rw [decide_eq_false hs1] at e1)
      have e2 : s = 1 → ((c0 : Int) == 1) = false := fun h => beq_no (by omega)
      first
        | replace e2 := e2 hs1
        | clear e2
      clear hone hs1
      go_enter Try.func26, Try.ntmps26
      go_wp2_with fail
      refine (dgSum_any _ _ _ _ HRD.out HBD.out (by rw [HL.out]; omega)).mono ?_
      rintro e w1 ⟨rfl, rfl⟩
      rw [HSUM2.out]
      go_wp2
      go_loop [3] (fun i => ∃ k : Nat, 1 ≤ k ∧ k ≤ cs.length ∧ i = .int .i64 k ∧ Hid (∀ j (hj : j < cs.length), 1 ≤ j → j < k → cs[j] = 0)) (fun i => cs.length - (intOf i).toNat)
      case atStart => exact ⟨1, by omega, hclen1, rfl, Lib.hid (fun j hj h1 h2 => by omega)⟩
      case round =>
        obtain ⟨k, k1, k2, rfl, HZ⟩ := hrel
        by_cases hlt : k < cs.length
        · obtain ⟨q, hq⟩ : ∃ q, q = cs[k] := ⟨_, rfl⟩
          have hcell : w.cell? ⟨g, k, none⟩ = some (.int .i64 (q : Int)) := by rw [HC.out k (by rw [HL.out]; exact hlt), ints_at, hq]
          have HQ := Lib.hid hq
          have hq40 : q ≤ 40 := by rw [hq]; exact HAll.out _ (List.getElem_mem hlt)
          clear hq
          by_cases hq0 : q = 0
          · have f1 : ((q : Int) == 0) = true := beq_yes (by omega)
            have HQ0 := Lib.hid hq0
            clear hq0
            go_wp2
            go_round
            case rel => exact ⟨k + 1, by omega, by omega, by go_num, Lib.hid (fun j hj h1 h2 => by by_cases e : j = k; (subst e; rw [← HQ.out, HQ0.out]); exact HZ.out j hj h1 (by omega))⟩
            case measure => simp [intOf]; omega
          · have f1 : ((q : Int) == 0) = false := beq_no (by omega)
            have f2 : ((k : Int) == (cs.length : Int)) = false := beq_no (by omega)
            have f3 : (k == cs.length) = false := by rw [beq_eq_false_iff_ne]; omega
            obtain ⟨cs', hcs'⟩ : ∃ cs', cs' = cs.set k (q - 1) := ⟨_, rfl⟩
            have HLead := Lib.hid (show lead cs = (k : Int) :: flat cs' 0 by
              have e := HCS.out
              subst e
              have h1 := lead_first (p := k) hlt k1 HZ.out (by rw [← HQ.out]; omega)
              rw [h1, hcs', HQ.out])
            have HL' := Lib.hid (show cs'.length = cs.length by rw [hcs', List.length_set])
            have HAt := Lib.hid (show ∀ i (h : i < cs.length) (h2 : i < cs'.length), cs'[i] = if k = i then q - 1 else cs[i] by intro i h h2; subst hcs'; rw [List.getElem_set])
            have HFL := Lib.hid (show (flat cs' 0).length ≤ 40 by
              have h1 := congrArg List.length HLead.out
              have h2 : (lead cs).length ≤ 41 := by
                have e := HCS.out
                subst e
                have h3 := flat_len tl 1
                have h5 := HSS.out
                simp at h5
                cases ht : flat tl 1 with
                | nil => rw [lead_nil ht]; split <;> simp
                | cons f t => rw [lead_cons ht]; rw [ht] at h3; simp at h3 ⊢; omega
              simp at h1
              omega)
            have hqp : 1 ≤ q := by omega
            clear hq0 hcs'
            go_wp2
            go_loopw [4, 38] (fun o i wr => ∃ (m : Nat) (out : List Int), m ≤ cs.length ∧ i = .int .i64 m ∧ Rd wr w.heap.size o out ∧ Below w.heap.size w wr ∧ out ++ flat (cs'.drop m) m = (k : Int) :: flat cs' 0) (fun _ i _ => cs.length - (intOf i).toNat)
            case atStart => exact ⟨0, [(k : Int)], Nat.zero_le _, rfl, Rd.litB _ _ _ (Nat.le_refl _), (Below.refl _ _).alloc (Nat.le_refl _) _, rfl⟩
            case round =>
              obtain ⟨m, out, hm, rfl, hr, hb1, ho⟩ := hrel
              have HR := Lib.hid hr
              have HB := Lib.hid hb1
              have HO := Lib.hid ho
              clear hr hb1 ho
              obtain ⟨wo, rfl⟩ : ∃ wo : World, wo = wr := ⟨_, rfl⟩
              by_cases hmt : m < cs.length
              · obtain ⟨r, hr⟩ : ∃ r, r = cs[m] := ⟨_, rfl⟩
                have hr40 : r ≤ 40 := by rw [hr]; exact HAll.out _ (List.getElem_mem hmt)
                have hcell2 : wo.cell? ⟨g, m, none⟩ = some (.int .i64 (r : Int)) := by rw [HB.out.cell (p := ⟨g, m, none⟩) hgw, HC.out m (by rw [HL.out]; exact hmt), ints_at, hr]
                have hmt' : m < cs'.length := by rw [HL'.out]; exact hmt
                obtain ⟨r', hr'⟩ : ∃ r', r' = cs'[m] := ⟨_, rfl⟩
                have HF := Lib.hid (show flat (cs'.drop m) m = List.replicate r' (m : Int) ++ flat (cs'.drop (m + 1)) (m + 1) by rw [hr']; exact flat_step cs' m m hmt')
                have hA := HAt.out m hmt hmt'
                rw [← hr', ← hr] at hA
                have hol : out.length + r' ≤ 41 := by
                  have h1 := congrArg List.length HO.out
                  rw [HF.out] at h1
                  have h2 := HFL.out
                  simp at h1
                  omega
                have HRV := Lib.hid hr
                clear hr hr'
                by_cases hmk : k = m
                · have g1 : ((m : Int) == (k : Int)) = true := beq_yes (by omega)
                  have g2 : (m == k) = true := by rw [beq_iff_eq]; omega
                  have hrr : r' + 1 ≤ r ∧ r ≤ r' + 1 := by
                    rw [if_pos hmk] at hA
                    have : r = q := by have h3 := HQ.out; have h4 := HRV.out; subst hmk; rw [h3, h4]
                    omega
                  obtain ⟨rr1, rr2⟩ := hrr
                  clear hmk hA
                  go_wp2
                  go_loopw [4, 6] (fun o n wr => ∃ (j : Nat) (out' : List Int), j ≤ r' ∧ n = .int .i64 ((r' : Int) - (j : Int)) ∧ Rd wr w.heap.size o out' ∧ Below w.heap.size w wr ∧ out' = out ++ List.replicate j (m : Int)) (fun _ n _ => (intOf n).toNat)
                  case atStart => exact ⟨0, out, Nat.zero_le _, congrArg (Value.int .i64) (by omega), HR.out, HB.out, by simp⟩
                  case round =>
                    obtain ⟨j, out', hj, rfl, hr3, hb3, ho3⟩ := hrel
                    have HR3 := Lib.hid hr3
                    have HB3 := Lib.hid hb3
                    have HO3 := Lib.hid ho3
                    have hol3 : out'.length ≤ 41 := by rw [ho3]; simp; omega
                    have hsz3 := hb3.size
                    clear hr3 hb3 ho3
                    by_cases hjr : j < r'
                    · go_wp2_with (at_builtin; refine wpList_appR rfl _ _ rfl w.heap.size w.heap.size _ _ out' [(m : Int)] rfl rfl (HR3.out.alloc _) (Rd.litB _ _ _ hsz3) (by simp; omega) (by simp; omega) ?_; intro v2 w2 hr2 hg2 hb2; have R2 := Lib.hid hr2; have B2 := Lib.hid ((HB3.out.alloc hsz3 _).trans hb2); clear hr2 hg2 hb2)
                      go_roundw
                      case rel => exact ⟨j + 1, _, by omega, congrArg (Value.int .i64) (by omega), R2.out, B2.out, by rw [HO3.out, List.append_assoc, ← List.replicate_succ']⟩
                      case measure => simp [intOf]; omega
                    · obtain rfl : j = r' := by omega
                      go_wp2
                      go_roundw
                      case rel => exact ⟨m + 1, out', by omega, by go_num, HR3.out, HB3.out, by rw [HO3.out, ← HO.out, HF.out, List.append_assoc]⟩
                      case measure => simp [intOf]; omega
                · have g1 : ((m : Int) == (k : Int)) = false := beq_no (by omega)
                  have g2 : (m == k) = false := by rw [beq_eq_false_iff_ne]; omega
                  have hrr : r' ≤ r ∧ r ≤ r' := by rw [if_neg hmk] at hA; omega
                  obtain ⟨rr1, rr2⟩ := hrr
                  clear hmk hA
                  go_wp2
                  go_loopw [4, 6] (fun o n wr => ∃ (j : Nat) (out' : List Int), j ≤ r' ∧ n = .int .i64 ((r' : Int) - (j : Int)) ∧ Rd wr w.heap.size o out' ∧ Below w.heap.size w wr ∧ out' = out ++ List.replicate j (m : Int)) (fun _ n _ => (intOf n).toNat)
                  case atStart => exact ⟨0, out, Nat.zero_le _, congrArg (Value.int .i64) (by omega), HR.out, HB.out, by simp⟩
                  case round =>
                    obtain ⟨j, out', hj, rfl, hr3, hb3, ho3⟩ := hrel
                    have HR3 := Lib.hid hr3
                    have HB3 := Lib.hid hb3
                    have HO3 := Lib.hid ho3
                    have hol3 : out'.length ≤ 41 := by rw [ho3]; simp; omega
                    have hsz3 := hb3.size
                    clear hr3 hb3 ho3
                    by_cases hjr : j < r'
                    · go_wp2_with (at_builtin; refine wpList_appR rfl _ _ rfl w.heap.size w.heap.size _ _ out' [(m : Int)] rfl rfl (HR3.out.alloc _) (Rd.litB _ _ _ hsz3) (by simp; omega) (by simp; omega) ?_; intro v2 w2 hr2 hg2 hb2; have R2 := Lib.hid hr2; have B2 := Lib.hid ((HB3.out.alloc hsz3 _).trans hb2); clear hr2 hg2 hb2)
                      go_roundw
                      case rel => exact ⟨j + 1, _, by omega, congrArg (Value.int .i64) (by omega), R2.out, B2.out, by rw [HO3.out, List.append_assoc, ← List.replicate_succ']⟩
                      case measure => simp [intOf]; omega
                    · obtain rfl : j = r' := by omega
                      go_wp2
                      go_roundw
                      case rel => exact ⟨m + 1, out', by omega, by go_num, HR3.out, HB3.out, by rw [HO3.out, ← HO.out, HF.out, List.append_assoc]⟩
                      case measure => simp [intOf]; omega
              · obtain rfl : m = cs.length := by omega
                go_wp2
                go_ret
                exact ⟨_, rfl, by rw [HLead.out, ← HO.out]; rw [List.drop_eq_nil_of_le (by rw [HL'.out]; exact Nat.le_refl _)]; simpa [flat] using HR.out, HB.out⟩
        · obtain rfl : k = cs.length := by omega
          have f2 : ((cs.length : Int) == (cs.length : Int)) = true := beq_yes rfl
          have HLead := Lib.hid (show lead cs = [] by
            have e := HCS.out
            subst e
            exact no_lead (all_zero c0 tl (fun j hj h1 => HZ.out j hj h1 hj)) HNO.out)
          go_wp2
          go_ret
          exact ⟨_, rfl, by rw [HLead.out]; exact Rd.nil _ _, Below.refl _ _⟩

end Go.Proofs.Ytecnalkjlilgmab
