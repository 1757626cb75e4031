/-
  Halves of the digits that come again: the program's and the model's answers (written by wip/tools/gen_9h.py).
-/
import Derived.Test.Ytgiabadkbfbilab9J
import Derived.Deep.RegionWith
namespace Go.Proofs.Ytgiabadkbfbilab
open Go.RowKit
set_option linter.unusedVariables false
set_option linter.unusedSimpArgs false
set_option maxRecDepth 100000

theorem run_size9 (w : World) : (sizeOf (Try.prog.elem 26)).run Try.prog w = .ok 1 w := by
  have he : Try.prog.elem 26 = 3 := by kernel_rfl
  rw [he]
  obtain ⟨i0, hi, hz0, hz1, hz2⟩ := info_parts info3
  have hz1' : Try.t3.size = 1 := by kernel_rfl
  simp [sizeOf, Sem.run_bind, hi, hz1, hz1', go_sem]
theorem run_low9 (g k n cap lo : Nat) (h1 : lo ≤ n) (h2 : lo < cap) (w : World) :
    (Instr.slice 26 (.slice (some ⟨g, k, none⟩) n cap) (some (.int .i64 (lo : Int))) none none).run Try.prog w = .ok (.slice (some ⟨g, k + lo, none⟩) (n - lo) (cap - lo)) w := by
  have hne : ¬ cap = lo := by omega
  rw [run_slice_l (P := Try.prog) (w := w) (t := 26) (a := some ⟨g, k, none⟩) (len := n) (cap := cap) (ht := by kernel_rfl) .i64 (lo : Int) (by omega) (by omega), run_size9 w]
  simp [Result.andThen, sliced, hne, addr_add]
theorem run_high9 (g k n cap hi : Nat) (h1 : hi ≤ cap) (h2 : 0 < cap) (w : World) :
    (Instr.slice 26 (.slice (some ⟨g, k, none⟩) n cap) none (some (.int .i64 (hi : Int))) none).run Try.prog w = .ok (.slice (some ⟨g, k, none⟩) hi cap) w := by
  have hne : ¬ cap = 0 := by omega
  rw [run_slice_h (P := Try.prog) (w := w) (t := 26) (a := some ⟨g, k, none⟩) (len := n) (cap := cap) (ht := by kernel_rfl) .i64 (hi : Int) (by omega) (by omega), run_size9 w]
  simp [Result.andThen, sliced, hne, addr_add]

theorem Ro.parts {w : World} {B n q : Nat} {v : Value} {xs : List Int} (h : Ro w B v xs) (hn : xs.length = n) (h1 : 1 ≤ q) (h2 : q < n) :
    ∃ g k cap, v = .slice (some ⟨g, k, none⟩) n cap ∧ n ≤ cap ∧ cap ≤ 9223372036854775807 ∧ Src w (.slice (some ⟨g, k, none⟩) q cap) (xs.take q) ∧ Src w (.slice (some ⟨g, k + q, none⟩) (n - q) (cap - q)) (xs.drop q) := by
  obtain ⟨g, m, cap, k, ys, rfl, hk, hr, hx⟩ := h
  have hyl := hr.at.1
  have hl : xs.length = m - k := by rw [hx, List.length_drop]; omega
  rcases hr.cases with ⟨hv, _⟩ | ⟨g', cap', hv, _, _, hlc, hcm, _, _⟩
  · simp at hv
  simp only [Value.slice.injEq, Option.some.injEq, Addr.mk.injEq, and_true, true_and] at hv
  obtain ⟨rfl, hv2, rfl⟩ := hv
  have hm2 : cap ≤ 9223372036854775807 := by unfold maxLen at hcm; exact hcm
  have hcell := hr.at.2.2.2.2.1
  refine ⟨g, k, cap - k, by rw [hn], by omega, by omega, .inr ⟨⟨g, k, none⟩, cap - k, by rw [List.length_take, Nat.min_eq_left (by omega)], fun j hj => ?_⟩, .inr ⟨⟨g, k + q, none⟩, cap - k - q, by rw [List.length_drop, hn], fun j hj => ?_⟩⟩
  · rw [List.length_take] at hj
    rw [addr_add, hcell (k + j) (by omega)]
    subst hx
    simp
  · rw [List.length_drop] at hj
    rw [addr_add, hcell (k + q + j) (by omega)]
    subst hx
    simp [Nat.add_assoc]

theorem Rn.parts {w : World} {B n q : Nat} {v : Value} {xs : List Int} (h : Rn w B v xs) (hn : xs.length = n) (h1 : 1 ≤ q) (h2 : q < n) :
    ∃ g k cap, v = .slice (some ⟨g, k, none⟩) n cap ∧ n ≤ cap ∧ cap ≤ 9223372036854775807 ∧ Src w (.slice (some ⟨g, k, none⟩) q cap) (xs.take q) ∧ Src w (.slice (some ⟨g, k + q, none⟩) (n - q) (cap - q)) (xs.drop q) := by
  rcases h with ⟨_, hx⟩ | h
  · rw [hx] at hn; simp at hn; omega
  · exact h.parts hn h1 h2
theorem Sl.lenAt {w : World} {n : Nat} {v : Value} {xs : List Int} (h : Sl w v xs) (hn : xs.length = n) : ∃ a cap, v = .slice a n cap := by
  subst hn; exact h.len

theorem apart9 {u v : Value} (h : u.ownBlock = none ∨ u.ownBlock ≠ v.ownBlock) : v.ownBlock = none ∨ v.ownBlock ≠ u.ownBlock := by
  cases hv : v.ownBlock with
  | none => exact .inl rfl
  | some k =>
    right
    intro hc
    rcases h with h | h
    · rw [h] at hc; cases hc
    · rw [hv] at h; exact h hc.symm

/-- Who has halves. -/
def Hal (a p b : Int) : Prop := Frc a p b ∧ a ≠ 0 ∧ prm p = true ∧ b % p ≠ 0 ∧ pA a.toNat p.toNat b.toNat ≤ 400 ∧ pA a.toNat p.toNat b.toNat % 2 = 0
instance (a p b : Int) : Decidable (Hal a p b) := by unfold Hal; infer_instance
def OK_HalvesOf (a p b : Int) : Bool := decide (Hal a p b)
def LA_HalvesOf (a p b : Int) : List Int := if Hal a p b then (rpt a.toNat p.toNat b.toNat).take (pA a.toNat p.toNat b.toNat / 2) else []
def LB_HalvesOf (a p b : Int) : List Int := if Hal a p b then (rpt a.toNat p.toNat b.toNat).drop (pA a.toNat p.toNat b.toNat / 2) else []
theorem L_HalvesOf_len (a p b : Int) : (LA_HalvesOf a p b).length ≤ 1000000 ∧ (LB_HalvesOf a p b).length ≤ 1000000 := by
  unfold LA_HalvesOf LB_HalvesOf
  split
  · rename_i h
    have := h.2.2.2.2.1
    rw [List.length_take, List.length_drop, rpt_len]
    omega
  · simp
theorem Hal_no {a p b : Int} (h : ¬ Hal a p b) : OK_HalvesOf a p b = false ∧ LA_HalvesOf a p b = [] ∧ LB_HalvesOf a p b = [] := ⟨decide_eq_false h, if_neg h, if_neg h⟩

/-- What the contracts say of the results. -/
def Two9 (w : World) (B : Nat) (e : Ending) (w' : World) (xs ys : List Int) (ok : Bool) : Prop :=
  ∃ u1 u2, e = .returned (.tuple #[u1, u2, .bool ok]) ∧ Rd w' B u1 xs ∧ Rd w' B u2 ys ∧ (u1.ownBlock = none ∨ u1.ownBlock ≠ u2.ownBlock) ∧ Below w.heap.size w w'


theorem impl_HalvesOf (a p b : Int) (w : World) :
    Calls Try.prog 8 #[.int .i64 a, .int .i64 p, .int .i64 b] w fun e w' => Two9 w w.heap.size e w' (LA_HalvesOf a p b) (LB_HalvesOf a p b) (OK_HalvesOf a p b) := by
  have HR := Lib.hid (fun w' => impl_RepetendOf a p b w')
  unfold Two9
  by_cases hO : OK_RepetendOf a p b = true
  · rw [hO] at HR
    obtain ⟨hF, hP4⟩ := of_decide_eq_true hO
    have hLF : LF_RepetendOf a p b = rpt a.toNat p.toNat b.toNat := if_pos ⟨hF, hP4⟩
    rw [hLF] at HR
    have HF := Lib.hid hF
    obtain ⟨A, N, B, rfl, rfl, rfl, n0, n1, b0, b1, a1, _⟩ := hF.nats
    have hz := beq_no (show (N : Int) ≠ 0 by omega)
    have hz2 : ¬ (N : Int) = 0 := by omega
    have hlen : (rpt A N B).length = pA A N B := rpt_len A N B
    simp only [Int.toNat_natCast] at HR hP4
    have HPr := Lib.hid (fun w' => isPrime_any (N : Int) w' ⟨by omega, by omega⟩)
    have HHal := Lib.hid (show Hal (A : Int) (N : Int) (B : Int) ↔ (A ≠ 0 ∧ prm (N : Int) = true ∧ (B : Int) % (N : Int) ≠ 0 ∧ pA A N B % 2 = 0) from
      ⟨fun c => ⟨by have := c.2.1; omega, c.2.2.1, c.2.2.2.1, c.2.2.2.2.2⟩, fun c => ⟨HF.out, by have := c.1; omega, c.2.1, c.2.2.1, hP4, c.2.2.2⟩⟩)
    have HLA := Lib.hid (fun (h : Hal (A : Int) (N : Int) (B : Int)) => show LA_HalvesOf (A : Int) (N : Int) (B : Int) = (rpt A N B).take (pA A N B / 2) from if_pos h)
    have HLB := Lib.hid (fun (h : Hal (A : Int) (N : Int) (B : Int)) => show LB_HalvesOf (A : Int) (N : Int) (B : Int) = (rpt A N B).drop (pA A N B / 2) from if_pos h)
    obtain ⟨X, hX⟩ : ∃ X, X = rpt A N B := ⟨_, rfl⟩
    rw [← hX] at HR hlen HLA HLB
    obtain ⟨P, hPP⟩ : ∃ P, P = pA A N B := ⟨_, rfl⟩
    rw [← hPP] at hlen hP4 HHal HLA HLB
    have HLen := Lib.hid hlen
    have hp1 : 1 ≤ P := by rw [hPP]; exact (per_bd b0 n0 a1).1
    clear hX hPP hlen hO hLF hF
    by_cases hA0 : A = 0
    · obtain ⟨e1, e2, e3⟩ := Hal_no (fun c => (HHal.out.1 c).1 hA0)
      rw [e1, e2, e3]
      have ha : (A : Int) < 1 := by omega
      clear e1 e2 e3 hA0
      go_enter Try.func8, Try.ntmps8
      go_wp2_with (go_at_call 11; refine (HR.out _).mono ?_; rintro e w1 ⟨v, rfl, hr, hb⟩; have HB := Lib.hid hb; clear hr hb)
      go_ret3
      exact ⟨_, _, rfl, Rd.nil _ _, Rd.nil _ _, .inl rfl, HB.out⟩
    have ha : ¬ (A : Int) < 1 := by omega
    cases hp : prm (N : Int) with
    | false =>
      rw [hp] at HPr
      obtain ⟨e1, e2, e3⟩ := Hal_no (fun c => by have := (HHal.out.1 c).2.1; rw [hp] at this; cases this)
      rw [e1, e2, e3]
      clear e1 e2 e3 hA0 hp
      go_enter Try.func8, Try.ntmps8
      go_wp2_with (first | (go_at_call 11; refine (HR.out _).mono ?_; rintro e w1 ⟨v, rfl, hr, hb⟩; have HB := Lib.hid hb; clear hr hb) | (go_at_call 63; refine (HPr.out _).mono ?_; rintro e w1 ⟨rfl, hb⟩; have HB2 := Lib.hid (Below.step HB.out HB.out.size hb); clear hb))
      go_ret3
      exact ⟨_, _, rfl, Rd.nil _ _, Rd.nil _ _, .inl rfl, HB2.out⟩
    | true =>
      rw [hp] at HPr
      by_cases hm : (B : Int) % (N : Int) = 0
      · obtain ⟨e1, e2, e3⟩ := Hal_no (fun c => (HHal.out.1 c).2.2.1 hm)
        rw [e1, e2, e3]
        clear e1 e2 e3 hA0 hp
        go_enter Try.func8, Try.ntmps8
        go_wp2_with (first | (go_at_call 11; refine (HR.out _).mono ?_; rintro e w1 ⟨v, rfl, hr, hb⟩; have HB := Lib.hid hb; clear hr hb) | (go_at_call 63; refine (HPr.out _).mono ?_; rintro e w1 ⟨rfl, hb⟩; have HB2 := Lib.hid (Below.step HB.out HB.out.size hb); clear hb))
        go_ret3
        exact ⟨_, _, rfl, Rd.nil _ _, Rd.nil _ _, .inl rfl, HB2.out⟩
      · have hmb := beq_no hm
        by_cases hodd : P % 2 = 0
        · have HH := Lib.hid (HHal.out.2 ⟨hA0, hp, hm, hodd⟩)
          have e1 : OK_HalvesOf (A : Int) (N : Int) (B : Int) = true := decide_eq_true HH.out
          have e2 := HLA.out HH.out
          have e3 := HLB.out HH.out
          rw [e1, e2, e3]
          obtain ⟨h, hh⟩ : ∃ h, h = P / 2 := ⟨_, rfl⟩
          rw [← hh]
          have h1 : 1 ≤ h := by omega
          have h2 : h < P := by omega
          have HPe := Lib.hid (show P = h + h by omega)
          have hq : (P : Int) / 2 = (h : Int) := by omega
          have hmod : ((P : Int) % 2 != 0) = false := bne_no (by omega)
          have HPh := Lib.hid (show P - h = h by omega)
          clear e1 e2 e3 hA0 hp hm hodd hh HHal HLA HLB HH
          go_enter Try.func8, Try.ntmps8
          go_wp2_with (first | (go_at_call 11; refine (HR.out _).mono ?_; rintro e w1 ⟨v, rfl, hr, hb⟩; have HB := Lib.hid hb; have HRo := Lib.hid hr; clear hr hb; obtain ⟨g, k, cap, rfl, c1, c2, hs1, hs2⟩ := Rn.parts HRo.out HLen.out h1 h2; have HS1 := Lib.hid hs1; have HS2 := Lib.hid hs2; clear hs1 hs2) | (go_at_call 63; refine (HPr.out _).mono ?_; rintro e w2 ⟨rfl, hb⟩; have HB2 := Lib.hid (Below.step HB.out HB.out.size hb); have HT1 := Lib.hid (HS1.out.keep hb); have HT2 := Lib.hid (HS2.out.keep hb); clear hb))
          have hsA := fun w' => run_high9 g k P cap h (by omega) (by omega) w'
          have hsB := fun w' => run_low9 g k P cap h (by omega) (by omega) w'
          rw [HPh.out] at hsB
          have HA := Lib.hid (fun w' (hw : Below w2.heap.size w2 w') => clone_src ⟨g, k, none⟩ h cap (X.take h) w' (HT1.out.keep hw) (by rw [List.length_take]; omega))
          have HTl := Lib.hid (fun w' (hw : Below w2.heap.size w2 w') => clone_src ⟨g, k + h, none⟩ h (cap - h) (X.drop h) w' (by have h5 := HT2.out.keep hw; rw [HPh.out] at h5; exact h5) (by rw [List.length_drop, HLen.out]; omega))
          go_region_with (first | (go_at_call_of 64 (Value.slice (some ⟨g, k, none⟩) h cap); refine (HA.out _ ?_).mono ?_; exact (Below.refl _ _).drew; rintro e w6 ⟨u1, rfl, hr1, hb1⟩; have HQ1 := Lib.hid hr1; have HJ1 := Lib.hid (Below.step (Below.refl _ w2).drew (Nat.le_refl _) hb1); clear hr1 hb1) | (go_at_call_of 64 (Value.slice (some ⟨g, k + h, none⟩) h (cap - h)); refine (HTl.out _ ?_).mono ?_; exact HJ1.out; rintro e w7 ⟨u2, rfl, hr2, hb2⟩; have HQ2 := Lib.hid hr2; have HJ2 := Lib.hid hb2; clear hr2 hb2))
          all_goals
            go_wp2
            go_ret3
            exact ⟨_, _, rfl, (HQ1.out.keep HJ2.out).mono HB2.out.size, HQ2.out.mono (Nat.le_trans HB2.out.size HJ1.out.size), Rd.apart (fun k hk => (HQ1.out.lt k hk).2) HQ2.out, Below.step (Below.step HB2.out HB2.out.size HJ1.out) (Below.step HB2.out HB2.out.size HJ1.out).size HJ2.out⟩
        · obtain ⟨e1, e2, e3⟩ := Hal_no (fun c => hodd (HHal.out.1 c).2.2.2)
          rw [e1, e2, e3]
          have hmod : ((P : Int) % 2 != 0) = true := bne_yes (by omega)
          clear e1 e2 e3 hA0 hp hm hodd HHal HLA HLB
          go_enter Try.func8, Try.ntmps8
          go_wp2_with (first | (go_at_call 11; refine (HR.out _).mono ?_; rintro e w1 ⟨v, rfl, hr, hb⟩; have HB := Lib.hid hb; have HRo := Lib.hid hr; clear hr hb; obtain ⟨g, cap, rfl⟩ := Sl.lenAt HRo.out.sl HLen.out) | (go_at_call 63; refine (HPr.out _).mono ?_; rintro e w2 ⟨rfl, hb⟩; have HB2 := Lib.hid (Below.step HB.out HB.out.size hb); clear hb))
          go_ret3
          exact ⟨_, _, rfl, Rd.nil _ _, Rd.nil _ _, .inl rfl, HB2.out⟩
  · have hO2 : OK_RepetendOf a p b = false := by simpa using hO
    rw [hO2] at HR
    obtain ⟨e1, e2, e3⟩ := Hal_no (a := a) (p := p) (b := b) (fun c => by
      have : OK_RepetendOf a p b = true := decide_eq_true ⟨c.1, c.2.2.2.2.1⟩
      exact hO this)
    rw [e1, e2, e3]
    clear e1 e2 e3 hO hO2
    go_enter Try.func8, Try.ntmps8
    go_wp2_with (go_at_call 11; refine (HR.out _).mono ?_; rintro e w1 ⟨v, rfl, hr, hb⟩; have HB := Lib.hid hb; clear hr hb)
    go_ret3
    exact ⟨_, _, rfl, Rd.nil _ _, Rd.nil _ _, .inl rfl, HB.out⟩

theorem spec_HalvesOf (a p b : Int) (w : World) :
    Calls Try.prog 9 #[.int .i64 a, .int .i64 p, .int .i64 b] w fun e w' => Two9 w w.heap.size e w' (LA_HalvesOf a p b) (LB_HalvesOf a p b) (OK_HalvesOf a p b) := by
  unfold Two9
  by_cases hF : Frc a p b
  · have hd := decide_eq_true hF
    have HF := Lib.hid hF
    obtain ⟨A, N, B, rfl, rfl, rfl, n0, n1, b0, b1, a1, _⟩ := hF.nats
    have hz := beq_no (show (N : Int) ≠ 0 by omega)
    have hz2 : ¬ (N : Int) = 0 := by omega
    have hlen : (rpt A N B).length = pA A N B := rpt_len A N B
    have HPe := Lib.hid (fun w' => tePeriod_any A N B w' n0 n1 b0 b1 a1)
    have HR := Lib.hid (fun w' => teRepetend_any A N B w' n0 n1 b0 b1 a1)
    have HHal := Lib.hid (show Hal (A : Int) (N : Int) (B : Int) ↔ (A ≠ 0 ∧ prm (N : Int) = true ∧ (B : Int) % (N : Int) ≠ 0 ∧ pA A N B ≤ 400 ∧ pA A N B % 2 = 0) from
      ⟨fun c => ⟨by have := c.2.1; omega, c.2.2.1, c.2.2.2.1, c.2.2.2.2.1, c.2.2.2.2.2⟩, fun c => ⟨HF.out, by have := c.1; omega, c.2.1, c.2.2.1, c.2.2.2.1, c.2.2.2.2⟩⟩)
    have HLA := Lib.hid (fun (h : Hal (A : Int) (N : Int) (B : Int)) => show LA_HalvesOf (A : Int) (N : Int) (B : Int) = (rpt A N B).take (pA A N B / 2) from if_pos h)
    have HLB := Lib.hid (fun (h : Hal (A : Int) (N : Int) (B : Int)) => show LB_HalvesOf (A : Int) (N : Int) (B : Int) = (rpt A N B).drop (pA A N B / 2) from if_pos h)
    obtain ⟨X, hX⟩ : ∃ X, X = rpt A N B := ⟨_, rfl⟩
    rw [← hX] at HR hlen HLA HLB
    obtain ⟨P, hPP⟩ : ∃ P, P = pA A N B := ⟨_, rfl⟩
    rw [← hPP] at hlen HHal HLA HLB HPe
    obtain ⟨C, hC⟩ : ∃ C, C = pB A N B := ⟨_, rfl⟩
    rw [← hC] at HPe
    have HLen := Lib.hid hlen
    have hp1 : 1 ≤ P := by rw [hPP]; exact (per_bd b0 n0 a1).1
    have hp2 : P ≤ 2000 := by rw [hPP]; exact Nat.le_trans (per_bd b0 n0 a1).2.1 n1
    clear hX hPP hlen hC hF
    by_cases hA0 : A = 0
    · obtain ⟨e1, e2, e3⟩ := Hal_no (fun c => (HHal.out.1 c).1 hA0)
      rw [e1, e2, e3]
      have ha : ((A : Int) == 0) = true := beq_yes (by omega)
      clear e1 e2 e3 hA0
      go_enter Try.func9, Try.ntmps9
      go_wp2_with (go_at_call 65; refine (teFraction_any _ _ _ _).mono ?_; rintro e w1 ⟨rfl, rfl⟩)
      go_ret3
      exact ⟨_, _, rfl, Rd.nil _ _, Rd.nil _ _, .inl rfl, Below.refl _ _⟩
    have ha : ((A : Int) == 0) = false := beq_no (by omega)
    have HPr := Lib.hid (fun w' => dvPrime_any (N : Int) w' ⟨by omega, by omega⟩ (by omega))
    cases hp : prm (N : Int) with
    | false =>
      rw [hp] at HPr
      obtain ⟨e1, e2, e3⟩ := Hal_no (fun c => by have := (HHal.out.1 c).2.1; rw [hp] at this; cases this)
      rw [e1, e2, e3]
      clear e1 e2 e3 hA0 hp
      go_enter Try.func9, Try.ntmps9
      go_wp2_with (first | (go_at_call 65; refine (teFraction_any _ _ _ _).mono ?_; rintro e w1 ⟨rfl, rfl⟩) | (go_at_call 66; refine (HPr.out _).mono ?_; rintro e w1 ⟨rfl, hb⟩; have HB := Lib.hid hb; clear hb))
      go_ret3
      exact ⟨_, _, rfl, Rd.nil _ _, Rd.nil _ _, .inl rfl, HB.out⟩
    | true =>
      rw [hp] at HPr
      by_cases hm : (B : Int) % (N : Int) = 0
      · obtain ⟨e1, e2, e3⟩ := Hal_no (fun c => (HHal.out.1 c).2.2.1 hm)
        rw [e1, e2, e3]
        clear e1 e2 e3 hA0 hp
        go_enter Try.func9, Try.ntmps9
        go_wp2_with (first | (go_at_call 65; refine (teFraction_any _ _ _ _).mono ?_; rintro e w1 ⟨rfl, rfl⟩) | (go_at_call 66; refine (HPr.out _).mono ?_; rintro e w1 ⟨rfl, hb⟩; have HB := Lib.hid hb; clear hb))
        go_ret3
        exact ⟨_, _, rfl, Rd.nil _ _, Rd.nil _ _, .inl rfl, HB.out⟩
      · have hmb := beq_no hm
        by_cases h4 : P ≤ 400
        · have hle : ¬ (400 : Int) < (P : Int) := by omega
          by_cases hodd : P % 2 = 0
          · have HH := Lib.hid (HHal.out.2 ⟨hA0, hp, hm, h4, hodd⟩)
            have e1 : OK_HalvesOf (A : Int) (N : Int) (B : Int) = true := decide_eq_true HH.out
            have e2 := HLA.out HH.out
            have e3 := HLB.out HH.out
            rw [e1, e2, e3]
            obtain ⟨h, hh⟩ : ∃ h, h = P / 2 := ⟨_, rfl⟩
            rw [← hh]
            have h1 : 1 ≤ h := by omega
            have h2 : h < P := by omega
            have hq : (P : Int) / 2 = (h : Int) := by omega
            have hmod : ((P : Int) % 2 == 1) = false := beq_no (by omega)
            have HPh := Lib.hid (show P - h = h by omega)
            clear e1 e2 e3 hA0 hp hm hodd hh HHal HLA HLB HH
            go_enter Try.func9, Try.ntmps9
            go_wp2_with (first | (go_at_call 65; refine (teFraction_any _ _ _ _).mono ?_; rintro e w1 ⟨rfl, rfl⟩) | (go_at_call 66; refine (HPr.out _).mono ?_; rintro e w1 ⟨rfl, hb⟩; have HB := Lib.hid hb; clear hb) | (go_at_call 67; refine (HPe.out _).mono ?_; rintro e w2 ⟨rfl, hb⟩; have HB2 := Lib.hid (Below.step HB.out HB.out.size hb); clear hb) | (go_at_call 68; refine (HR.out _).mono ?_; rintro e w3 ⟨v, rfl, hr, hb⟩; have HB3 := Lib.hid (Below.step HB2.out HB2.out.size hb); have HRo := Lib.hid hr; clear hr hb; obtain ⟨g, k, cap, rfl, c1, c2, hs1, hs2⟩ := Ro.parts HRo.out HLen.out h1 h2; have HT1 := Lib.hid hs1; have HT2 := Lib.hid hs2; clear hs1 hs2))
            have hsA := fun w' => run_high9 g k P cap h (by omega) (by omega) w'
            have hsB := fun w' => run_low9 g k P cap h (by omega) (by omega) w'
            rw [HPh.out] at hsB
            have HA := Lib.hid (fun w' (hw : Below w3.heap.size w3 w') => own_src (.slice (some ⟨g, k, none⟩) h cap) (X.take h) w' (HT1.out.keep hw) (by rw [List.length_take]; omega))
            have HTl := Lib.hid (fun w' (hw : Below w3.heap.size w3 w') => own_src (.slice (some ⟨g, k + h, none⟩) h (cap - h)) (X.drop h) w' (by have h5 := HT2.out.keep hw; rw [HPh.out] at h5; exact h5) (by rw [List.length_drop, HLen.out]; omega))
            go_region_with (first | (go_at_call_of 69 (Value.slice (some ⟨g, k, none⟩) h cap); refine (HA.out _ ?_).mono ?_; exact (Below.refl _ _).drew; rintro e w6 ⟨u1, rfl, hr1, hb1⟩; have HQ1 := Lib.hid hr1; have HJ1 := Lib.hid (Below.step (Below.refl _ w3).drew (Nat.le_refl _) hb1); clear hr1 hb1) | (go_at_call_of 69 (Value.slice (some ⟨g, k + h, none⟩) h (cap - h)); refine (HTl.out _ ?_).mono ?_; exact HJ1.out; rintro e w7 ⟨u2, rfl, hr2, hb2⟩; have HQ2 := Lib.hid hr2; have HJ2 := Lib.hid hb2; clear hr2 hb2))
            all_goals
              go_wp2
              go_ret3
              exact ⟨_, _, rfl, (HQ1.out.keep HJ2.out).mono HB3.out.size, HQ2.out.mono (Nat.le_trans HB3.out.size HJ1.out.size), Rd.apart (fun k hk => (HQ1.out.lt k hk).2) HQ2.out, Below.step (Below.step HB3.out HB3.out.size HJ1.out) (Below.step HB3.out HB3.out.size HJ1.out).size HJ2.out⟩
          · obtain ⟨e1, e2, e3⟩ := Hal_no (fun c => hodd (HHal.out.1 c).2.2.2.2)
            rw [e1, e2, e3]
            have hmod : ((P : Int) % 2 == 1) = true := beq_yes (by omega)
            obtain ⟨hf, hq⟩ : ∃ h : Nat, (P : Int) / 2 = (h : Int) := ⟨P / 2, rfl⟩
            clear e1 e2 e3 hA0 hp hm hodd HHal HLA HLB
            go_enter Try.func9, Try.ntmps9
            go_wp2_with (first | (go_at_call 65; refine (teFraction_any _ _ _ _).mono ?_; rintro e w1 ⟨rfl, rfl⟩) | (go_at_call 66; refine (HPr.out _).mono ?_; rintro e w1 ⟨rfl, hb⟩; have HB := Lib.hid hb; clear hb) | (go_at_call 67; refine (HPe.out _).mono ?_; rintro e w2 ⟨rfl, hb⟩; have HB2 := Lib.hid (Below.step HB.out HB.out.size hb); clear hb) | (go_at_call 68; refine (HR.out _).mono ?_; rintro e w3 ⟨v, rfl, hr, hb⟩; have HB3 := Lib.hid (Below.step HB2.out HB2.out.size hb); have HRo := Lib.hid hr; clear hr hb; obtain ⟨g, cap, rfl⟩ := Sl.lenAt HRo.out.sl HLen.out))
            go_ret3
            exact ⟨_, _, rfl, Rd.nil _ _, Rd.nil _ _, .inl rfl, HB3.out⟩
        · obtain ⟨e1, e2, e3⟩ := Hal_no (fun c => h4 (HHal.out.1 c).2.2.2.1)
          rw [e1, e2, e3]
          have hle : (400 : Int) < (P : Int) := by omega
          clear e1 e2 e3 hA0 hp hm h4 HHal HLA HLB
          go_enter Try.func9, Try.ntmps9
          go_wp2_with (first | (go_at_call 65; refine (teFraction_any _ _ _ _).mono ?_; rintro e w1 ⟨rfl, rfl⟩) | (go_at_call 66; refine (HPr.out _).mono ?_; rintro e w1 ⟨rfl, hb⟩; have HB := Lib.hid hb; clear hb) | (go_at_call 67; refine (HPe.out _).mono ?_; rintro e w2 ⟨rfl, hb⟩; have HB2 := Lib.hid (Below.step HB.out HB.out.size hb); clear hb))
          go_ret3
          exact ⟨_, _, rfl, Rd.nil _ _, Rd.nil _ _, .inl rfl, HB2.out⟩
  · have hd := decide_eq_false hF
    obtain ⟨e1, e2, e3⟩ := Hal_no (a := a) (p := p) (b := b) (fun c => hF c.1)
    rw [e1, e2, e3]
    clear e1 e2 e3 hF
    go_enter Try.func9, Try.ntmps9
    go_wp2_with (go_at_call 65; refine (teFraction_any _ _ _ _).mono ?_; rintro e w1 ⟨rfl, rfl⟩)
    go_ret3
    exact ⟨_, _, rfl, Rd.nil _ _, Rd.nil _ _, .inl rfl, Below.refl _ _⟩

end Go.Proofs.Ytgiabadkbfbilab
