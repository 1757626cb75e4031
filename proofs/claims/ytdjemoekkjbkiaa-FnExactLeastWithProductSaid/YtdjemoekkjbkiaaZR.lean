/-
  The least number with a product: the program's digits.
-/
import Derived.Test.YtdjemoekkjbkiaaZQ
namespace Go.Proofs.Ytdjemoekkjbkiaa
open Go.RowKit
set_option linter.unusedVariables false
set_option linter.unusedSimpArgs false
set_option maxRecDepth 100000

/-- The program's answer for a product of at least 1. -/
def lwp (b p : Nat) : Option Int := if p = 1 then some 1 else if ct b p = 0 then none else numF (b : Int) (ntI (gr b p)) 0
theorem lwp_one (b : Nat) : lwp b 1 = some 1 := if_pos rfl
theorem lwp_none {b p : Nat} (h : ¬ p = 1) (hc : ct b p = 0) : lwp b p = none := by rw [lwp, if_neg h, if_pos hc]
theorem lwp_some {b p : Nat} (h : ¬ p = 1) (hc : ct b p ≠ 0) : lwp b p = numF (b : Int) (ntI (gr b p)) 0 := by rw [lwp, if_neg h, if_neg hc]

/-- Where the program's digits stand. -/
def Dig (b p q : Nat) (pre : List Nat) : Prop := (ct b p = 0 ∧ q = p ∧ pre = []) ∨ (ct b p ≠ 0 ∧ ct b q ≠ 0 ∧ pre ++ gr b q = gr b p)
theorem Rd.lit2 (w : World) (o : Obj) (q : Int) (B : Nat) (hB : B ≤ w.heap.size + 1) : Rd ((w.alloc o).alloc (.cells #[.int .i64 q] 3)) B (.slice (some ⟨w.heap.size + 1, 0, none⟩) 1 1) [q] := by
  have h := Rd.litB (w.alloc o) B q (by simpa using hB)
  rw [show (w.alloc o).heap.size = w.heap.size + 1 by simp] at h
  exact h
theorem Dig.start (b p : Nat) : Dig b p p [] := by
  by_cases h : ct b p = 0
  · exact .inl ⟨h, rfl, rfl⟩
  · exact .inr ⟨h, h, rfl⟩
theorem Dig.dead {b p q : Nat} {pre : List Nat} (h : Dig b p q pre) (hc : ct b q = 0) : ct b p = 0 := by
  rcases h with ⟨h1, _⟩ | ⟨_, h2, _⟩
  · exact h1
  · exact absurd hc h2
theorem Dig.next {b p q : Nat} {pre : List Nat} (h : Dig b p q pre) (hq : 2 ≤ q) (hc : ct b q ≠ 0) : Dig b p (q / (mf b q).2) (pre ++ [(mf b q).2]) := by
  obtain ⟨_, _, _, h4, _, _⟩ := mf_spec hq hc
  rcases h with ⟨h1, rfl, rfl⟩ | ⟨h1, h2, h3⟩
  · exact absurd h1 hc
  · refine .inr ⟨h1, h4, ?_⟩
    rw [← h3, gr_step hq hc, List.append_assoc]; rfl
theorem Dig.done {b p : Nat} {pre : List Nat} (h : Dig b p 1 pre) (hp : ¬ p = 1) : ct b p ≠ 0 ∧ pre = gr b p := by
  rcases h with ⟨_, h2, _⟩ | ⟨h1, _, h3⟩
  · exact absurd h2.symm hp
  · rw [gr_one b 1 (Nat.le_refl _), List.append_nil] at h3
    exact ⟨h1, h3⟩
theorem Dig.len {b p q : Nat} {pre : List Nat} (h : Dig b p q pre) (hp : 1 ≤ p) (hp' : p ≤ 1000000000000) : pre.length ≤ 39 := by
  rcases h with ⟨_, _, rfl⟩ | ⟨h1, _, h3⟩
  · simp
  · have := (gr_spec b p hp h1).2.2.1
    have h4 := fw_40 hp hp' h1
    rw [← h3, List.length_append] at this
    omega

set_option maxHeartbeats 1000000 in
theorem leastWithProduct_any (p b : Nat) (w : World) (hp : 1 ≤ p) (hp' : p ≤ 1000000000000) (hb : 2 ≤ b) (hb' : b ≤ 16) :
    Calls Try.prog 11 #[.int .i64 (b : Int), .int .i64 (p : Int)] w fun e w' => e = .returned (optRes (lwp b p)) ∧ Below w.heap.size w w' := by
  by_cases h1 : p = 1
  · subst h1
    have HL := Lib.hid (lwp_one b)
    go_enter Try.func11, Try.ntmps11
    go_wp2
    go_ret2
    exact ⟨by rw [HL.out]; rfl, Below.refl _ _⟩
  · have hpe : ((p : Int) == 1) = false := beq_no (by omega)
    have HP1 := Lib.hid h1
    clear h1
    go_enter Try.func11, Try.ntmps11
    go_wp2_with fail
    refine (splitter_any b _).mono ?_
    rintro e w1 ⟨m, s0, rfl, hs0, hs1, hm, hb1⟩
    have hml := hs0.lt
    have HB1 := Lib.hid hb1
    have HH1 := Lib.hid (heap_alloc_new w1 (.cells #[.int .i64 (b : Int), .map (some m)] 37))
    have HS0 := Lib.hid (hs0.alloc (.cells #[.int .i64 (b : Int), .map (some m)] 37))
    have HBA := Lib.hid (hb1.alloc hb1.size (.cells #[.int .i64 (b : Int), .map (some m)] 37))
    have HS1 := Lib.hid hs1
    have HM := Lib.hid hm
    have hbs := HB1.out.size
    clear hs0 hb1 hs1 hm
    go_wp2_with fail
    go_loopw [1, 7] (fun y o wr => ∃ (q : Nat) (pre : List Nat) (s' : Nat → Bool), y = .int .i64 (q : Int) ∧ 1 ≤ q ∧ q ≤ 1000000000000 ∧ Hid (Dig b p q pre) ∧ Rd wr (w1.heap.size + 1) o (ntI pre) ∧ Sm wr b m s' ∧ Hid (s' 1 = true) ∧ Hid (wr.heap[w1.heap.size]? = some (.cells #[.int .i64 (b : Int), .map (some m)] 37 (0, 0))) ∧ Below w.heap.size w wr) (fun y _ _ => (intOf y).toNat)
    case atStart => exact ⟨p, [], s0, rfl, hp, hp', Lib.hid (Dig.start b p), Rd.nil _ _, HS0.out, Lib.hid HS1.out, Lib.hid HH1.out, HBA.out⟩
    case round =>
      obtain ⟨q, pre, s', rfl, hq1, hq2, HD, hr, hsm, HS', HH, hbl⟩ := hrel
      have HR := Lib.hid hr
      have HSM := Lib.hid hsm
      have HB := Lib.hid hbl
      have HLT := Lib.hid (show w1.heap.size < wr.heap.size from (Array.getElem?_eq_some_iff.1 HH.out).1)
      have HI := Lib.hid (show (Try.prog.info? 37).map (·.size) = some (#[Value.int .i64 (b : Int), Value.map (some m)] : Array Value).size from infoSr6)
      clear hr hsm hbl
      by_cases hlt : 1 < q
      · have hli : (1 : Int) < (q : Int) := by omega
        have HOF := Lib.hid (of_any b hb hb' q hq1 hq2 m s' wr HSM.out HS'.out)
        obtain ⟨C, hC⟩ : ∃ C : Nat, C = ct b q := ⟨_, rfl⟩
        obtain ⟨F1, hF1⟩ : ∃ F : Nat, F = (mf b q).1 := ⟨_, rfl⟩
        obtain ⟨F2, hF2⟩ : ∃ F : Nat, F = (mf b q).2 := ⟨_, rfl⟩
        have HSP := Lib.hid (show spV b q = .agg #[.int .i64 (C : Int), .int .i64 (F1 : Int), .int .i64 (F2 : Int)] by unfold spV; rw [hC, hF1, hF2])
        rw [HSP.out] at HOF
        by_cases hc0 : C = 0
        · have hce : ((C : Int) == 0) = true := beq_yes (by omega)
          have HL := Lib.hid (show lwp b p = none from lwp_none HP1.out (HD.out.dead (by rw [← hC]; exact hc0)))
          clear hC hF1 hF2 hc0
          go_wp2_with (first
            | (refine wpList_load_row rfl 37 (.tmp 6) rfl w1.heap.size rfl _ #[.int .i64 (b : Int), .map (some m)] _ _ HH.out Try.underlying37 rfl HI.out ?_)
            | (go_at_call 19; refine HOF.out.mono ?_; rintro e w2 ⟨s2, rfl, hs2, h12, hg2⟩; have HB2 := Lib.hid (HB.out.grown hg2 HB.out.size (fun k hk => by cases hk; exact HM.out)); clear hs2 h12 hg2))
          go_ret2
          exact ⟨by rw [HL.out]; rfl, by first | exact HB2.out | exact HB2.out.alloc HB2.out.size _⟩
        · have hce : ((C : Int) == 0) = false := beq_no (by omega)
          obtain ⟨m1, m2, m3, m4, m5, _⟩ := mf_spec (b := b) (p := q) (by omega) (by rw [← hC]; exact hc0)
          have HDN := Lib.hid (HD.out.next (by omega) (by rw [← hC]; exact hc0))
          rw [← hF2] at m1 m2 m3 HDN
          obtain ⟨r, hr⟩ : ∃ r : Nat, r = q / F2 := ⟨_, rfl⟩
          have hqi : Int.tdiv (q : Int) (F2 : Int) = (r : Int) := by rw [Int.tdiv_eq_ediv_of_nonneg (by omega), hr]; exact (Int.natCast_ediv q F2).symm
          have hqe : (q : Int) / (F2 : Int) = (r : Int) := by rw [hr]; exact (Int.natCast_ediv q F2).symm
          have hf0 : ((F2 : Int) == 0) = false := beq_no (by omega)
          have hfz : ¬ (F2 : Int) = 0 := by omega
          have hr1 : 1 ≤ r := by rw [hr]; exact Nat.div_pos (Nat.le_of_dvd (by omega) (Nat.dvd_of_mod_eq_zero m3)) (by omega)
          have hrq : r < q := by rw [hr]; exact Nat.div_lt_self (by omega) (by omega)
          have hwr : IntKind.i64.wrap (r : Int) = (r : Int) := IntWalk.i64_in _ (by omega)
          rw [← hr] at HDN
          have HPL := Lib.hid (HD.out.len hp hp')
          have hF16 : F2 ≤ 16 := by omega
          clear hC hF1 hF2 hc0 m1 m2 m3 m4 m5 hr
          go_wp2_with (first
            | (refine wpList_load_row rfl 37 (.tmp 6) rfl w1.heap.size rfl _ #[.int .i64 (b : Int), .map (some m)] _ _ HH.out Try.underlying37 rfl HI.out ?_)
            | (go_at_call 19; refine HOF.out.mono ?_; rintro e w2 ⟨s2, rfl, hs2, h12, hg2⟩; have HS2 := Lib.hid hs2; have H12 := Lib.hid h12; have HG2 := Lib.hid hg2; have HB2 := Lib.hid (HB.out.grown hg2 HB.out.size (fun k hk => by cases hk; exact HM.out)); have HR2 := Lib.hid (HR.out.grown hg2 (by
                cases hv : u7.ownBlock with
                | none => exact .inl rfl
                | some k => right; intro e; cases e; have h1 := (HR.out.lt _ hv).1; omega)); have HH2 := Lib.hid (show w2.heap[w1.heap.size]? = some (.cells #[.int .i64 (b : Int), .map (some m)] 37 (0, 0)) by rw [hg2.block w1.heap.size HLT.out (by simp; omega)]; exact HH.out); have hz2 := hg2.size; clear hs2 h12 hg2)
            | (at_builtin; (refine wpList_appR rfl _ _ rfl (w1.heap.size + 1) w.heap.size _ _ (ntI pre) [(F2 : Int)] rfl rfl ((HR2.out.alloc _).alloc _) (Rd.lit2 w2 _ (F2 : Int) w.heap.size (by have := HB2.out.size; omega)) (by have := HPL.out; rw [ntI_len]; simp; omega) (by have := HLT.out; simp; omega) ?_); intro v1 w3 hr3 hg3 hb3; have HR3 := Lib.hid hr3; have HB3 := Lib.hid hb3; have c3 : w3.cell? ⟨w2.heap.size, 2, none⟩ = some (.int .i64 (F2 : Int)) := hg3.cell (by simp [go_sem]) (by intro e; have h1 := (HR.out.lt _ e.symm).2; simp at h1; omega); clear hr3 hg3 hb3))
          go_roundw
          case rel => exact ⟨r, pre ++ [F2], s2, rfl, hr1, by omega, HDN, by rw [ntI_snoc]; exact HR3.out, ((HS2.out.alloc _).alloc _).keepB HB3.out (by omega), H12, Lib.hid (by rw [HB3.out.block w1.heap.size (Nat.lt_succ_self _), Below.heap_alloc _ _ _ (by simp; have := HLT.out; omega), Below.heap_alloc _ _ _ (by have := HLT.out; omega)]; exact HH2.out), ((HB2.out.alloc HB2.out.size _).alloc (by have := HB2.out.size; simp; omega) _).trans (HB3.out.mono (by omega))⟩
          case measure => simp [intOf]; omega
      · obtain rfl : q = 1 := by omega
        obtain ⟨d1, d2⟩ := HD.out.done HP1.out
        obtain ⟨g1, g2, g3, _⟩ := gr_spec b p hp d1
        have HL := Lib.hid (show lwp b p = numF (b : Int) (ntI pre) 0 by rw [lwp_some HP1.out d1, d2])
        have HNA := Lib.hid (show ∀ x ∈ ntI pre, 0 ≤ x ∧ x ≤ 1000000 by rw [d2]; exact ntI_all g1 (by omega))
        have HNL := Lib.hid (show (ntI pre).length ≤ 1000000 by have := HD.out.len hp hp'; rw [ntI_len]; omega)
        obtain ⟨R, hR⟩ : ∃ R, R = numF (b : Int) (ntI pre) 0 := ⟨_, rfl⟩
        have HNUM := Lib.hid (number_any _ (ntI pre) (b : Int) _ _ HR.out HNA.out (by omega) (by omega) HNL.out)
        rw [← hR] at HNUM HL
        have hli : ¬ (1 : Int) < ((1 : Nat) : Int) := by omega
        clear d1 d2 g1 g2 g3 hR
        go_wp2_with (go_at_call 20; refine HNUM.out.mono ?_; rintro e w2 ⟨rfl, rfl⟩)
        go_ret2
        exact ⟨by rw [HL.out]; rfl, HB.out⟩

end Go.Proofs.Ytdjemoekkjbkiaa
