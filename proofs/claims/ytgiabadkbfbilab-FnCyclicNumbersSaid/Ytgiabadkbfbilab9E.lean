/-
  Digits that come again: the program's and the model's answers.
-/
import Derived.Test.Ytgiabadkbfbilab9D
namespace Go.Proofs.Ytgiabadkbfbilab
open Go.RowKit
set_option linter.unusedVariables false
set_option linter.unusedSimpArgs false
set_option maxRecDepth 100000

theorem per_bd {a n b : Nat} (hb : 0 < b) (hn : 0 < n) (ha : a < n) : 1 ≤ pA a n b ∧ pA a n b ≤ n ∧ pB a n b ≤ n := by
  obtain ⟨e1, e2⟩ := period_all hb hn ha
  have h := late_back (mb_into (b := b) hn) ha
  rw [e1, e2] at h
  exact ⟨h.2.1, h.2.2.1, h.2.2.2⟩

theorem run_from (g n cap lo : Nat) (h1 : lo ≤ n) (h2 : lo < cap) (w : World) :
    (Instr.slice 26 (.slice (some ⟨g, 0, none⟩) n cap) (some (.int .i64 (lo : Int))) none none).run Try.prog w = .ok (.slice (some ⟨g, lo, none⟩) (n - lo) (cap - lo)) w := by
  have hne : ¬ cap = lo := by omega
  rw [run_slice_l (P := Try.prog) (w := w) (t := 26) (a := some ⟨g, 0, none⟩) (len := n) (cap := cap) (ht := by kernel_rfl) .i64 (lo : Int) (by omega) (by omega)]
  have hs : (sizeOf (Try.prog.elem 26)).run Try.prog w = .ok 1 w := by
    have he : Try.prog.elem 26 = 3 := by kernel_rfl
    rw [he]
    obtain ⟨i0, hi, hz0, hz1, hz2⟩ := info_parts info3
    have hz1' : Try.t3.size = 1 := by kernel_rfl
    simp [sizeOf, Sem.run_bind, hi, hz1, hz1', go_sem]
  rw [hs]
  simp [Result.andThen, sliced, hne, addr_add]

theorem Rd.shapeAt {w : World} {B n : Nat} {v : Value} {xs : List Int} (h : Rd w B v xs) (hn : xs.length = n) (h0 : 1 ≤ n) : ∃ g cap, v = .slice (some ⟨g, 0, none⟩) n cap ∧ n ≤ cap ∧ cap ≤ 9223372036854775807 ∧ Rd w B (.slice (some ⟨g, 0, none⟩) n cap) xs := by
  subst hn
  rcases h.cases with ⟨_, hx⟩ | ⟨g, cap, rfl, _, _, hlc, hcm, _, _⟩
  · rw [hx] at h0; simp at h0
  · exact ⟨g, cap, rfl, hlc, by unfold maxLen at hcm; exact hcm, h⟩

theorem teRepetend_any (a n b : Nat) (w : World) (hn : 0 < n) (hn2 : n ≤ 2000) (hb0 : 0 < b) (hb : b ≤ 16) (ha : a < n) :
    Calls Try.prog 68 #[.int .i64 (a : Int), .int .i64 (n : Int), .int .i64 (b : Int)] w fun e w' => ∃ v, e = .returned v ∧ Ro w' w.heap.size v (rpt a n b) ∧ Below w.heap.size w w' := by
  have HP := Lib.hid (fun w' => tePeriod_any a n b w' hn hn2 hb0 hb ha)
  obtain ⟨p1, p2, p3⟩ := per_bd hb0 hn ha
  have HD := Lib.hid (fun w' => teDigits_any a n b (pB a n b + pA a n b) w' hn hn2 hb ha (by omega))
  have HL := Lib.hid (fdg_len a n b (pB a n b + pA a n b))
  have HE := Lib.hid (show rpt a n b = (fdg a n b (pB a n b + pA a n b)).drop (pB a n b) from rfl)
  rw [HE.out]
  obtain ⟨X, hX⟩ : ∃ X, X = fdg a n b (pB a n b + pA a n b) := ⟨_, rfl⟩
  rw [← hX] at HD HL ⊢
  clear hX HE
  obtain ⟨C, hC⟩ : ∃ C, C = pB a n b := ⟨_, rfl⟩
  obtain ⟨P, hP⟩ : ∃ P, P = pA a n b := ⟨_, rfl⟩
  rw [← hC, ← hP] at HD HL HP
  rw [← hC] at p3 ⊢
  rw [← hP] at p1 p2
  clear hC hP
  have hpc : (C : Int) + (P : Int) = ((C + P : Nat) : Int) := by push_cast; rfl
  have HPC := Lib.hid hpc
  clear hpc
  go_enter Try.func68, Try.ntmps68
  go_wp2_with (first | (go_at_call 67; refine (HP.out _).mono ?_; rintro e w1 ⟨rfl, hb⟩; have HB := Lib.hid hb; clear hb) | (go_at_call 130; rw [HPC.out]; refine (HD.out _).mono ?_; rintro e w2 ⟨v, rfl, hr, hb⟩; have HB2 := Lib.hid (Below.step HB.out HB.out.size hb); have HR := Lib.hid (hr.mono HB.out.size); clear hr hb; obtain ⟨g, cap, rfl, hlc, hcm, hr2⟩ := HR.out.shapeAt HL.out (by omega); have HRo := Lib.hid (Ro.of hr2 (show C < C + P by omega)); have hsl := fun w' => run_from g (C + P) cap C (by omega) (by omega) w'; clear hr2 HR))
  go_ret
  exact ⟨_, rfl, by have h := HRo.out; simpa using h, HB2.out⟩

def OK_RepetendOf (a n b : Int) : Bool := decide (Frc a n b ∧ pA a.toNat n.toNat b.toNat ≤ 400)
def LF_RepetendOf (a n b : Int) : List Int := if Frc a n b ∧ pA a.toNat n.toNat b.toNat ≤ 400 then rpt a.toNat n.toNat b.toNat else []
theorem LF_RepetendOf_len (a n b : Int) : (LF_RepetendOf a n b).length ≤ 2000000 := by
  unfold LF_RepetendOf
  split
  · rw [rpt_len]; omega
  · simp

theorem impl_RepetendOf (a n b : Int) (w : World) :
    Calls Try.prog 11 #[.int .i64 a, .int .i64 n, .int .i64 b] w fun e w' => ∃ v, e = .returned (.tuple #[v, .bool (OK_RepetendOf a n b)]) ∧ Rn w' w.heap.size v (LF_RepetendOf a n b) ∧ Below w.heap.size w w' := by
  have HI := Lib.hid (fun w' => impl_PeriodOf a n b w')
  by_cases h : Frc a n b
  · have hRP : RPer a n b = some (((pB a.toNat n.toNat b.toNat : Nat) : Int), ((pA a.toNat n.toNat b.toNat : Nat) : Int)) := if_pos h
    rw [hRP] at HI
    unfold resP at HI
    simp only [Option.getD_some, Option.isSome_some] at HI
    by_cases hk : pA a.toNat n.toNat b.toNat ≤ 400
    · have HO := Lib.hid (show OK_RepetendOf a n b = true from decide_eq_true ⟨h, hk⟩)
      have HL := Lib.hid (show LF_RepetendOf a n b = rpt a.toNat n.toNat b.toNat from if_pos ⟨h, hk⟩)
      rw [HO.out, HL.out]
      clear hRP HO HL
      obtain ⟨A, N, B, rfl, rfl, rfl, n0, n1, b0, b1, a1, _⟩ := h.nats
      simp only [Int.toNat_natCast] at HI hk ⊢
      obtain ⟨p1, p2, p3⟩ := per_bd b0 n0 a1
      have HD := Lib.hid (fun w' => digits_anyF A N B (pB A N B + pA A N B) w' n0 n1 b1 a1 (by omega))
      have HFL := Lib.hid (fdg_len A N B (pB A N B + pA A N B))
      have HE := Lib.hid (show rpt A N B = (fdg A N B (pB A N B + pA A N B)).drop (pB A N B) from rfl)
      rw [HE.out]
      clear HE
      obtain ⟨X, hX⟩ : ∃ X, X = fdg A N B (pB A N B + pA A N B) := ⟨_, rfl⟩
      rw [← hX] at HD HFL ⊢
      clear hX
      obtain ⟨C, hC⟩ : ∃ X, X = pB A N B := ⟨_, rfl⟩
      obtain ⟨P, hPP⟩ : ∃ X, X = pA A N B := ⟨_, rfl⟩
      rw [← hC, ← hPP] at HI HD HFL
      rw [← hC] at p3 ⊢
      rw [← hPP] at p1 p2 hk
      have hle : ¬ (400 : Int) < (P : Int) := by omega
      have HPC := Lib.hid (show (C : Int) + (P : Int) = ((C + P : Nat) : Int) by push_cast; rfl)
      clear h hC hPP
      go_enter Try.func11, Try.ntmps11
      go_wp2_with (first | (go_at_call 70; refine (HI.out _).mono ?_; rintro e w1 ⟨rfl, hb⟩; have HB := Lib.hid hb; clear hb) | (go_at_call 71; rw [HPC.out]; refine (HD.out _).mono ?_; rintro e w2 ⟨v, rfl, hr, hb⟩; have HB2 := Lib.hid (Below.step HB.out HB.out.size hb); have HR := Lib.hid (hr.mono HB.out.size); clear hr hb; obtain ⟨g, cap, rfl, hlc, hcm, hr2⟩ := HR.out.shapeAt HFL.out (by omega); have HRo := Lib.hid (Ro.of hr2 (show C < C + P by omega)); have hsl := fun w' => run_from g (C + P) cap C (by omega) (by omega) w'; clear hr2 HR))
      go_ret2
      exact ⟨_, rfl, .inr (by have h := HRo.out; simpa using h), HB2.out⟩
    · have HO := Lib.hid (show OK_RepetendOf a n b = false from decide_eq_false (fun c => hk c.2))
      have HL := Lib.hid (show LF_RepetendOf a n b = [] from if_neg (fun c => hk c.2))
      rw [HO.out, HL.out]
      clear hRP HO HL
      obtain ⟨A, N, B, rfl, rfl, rfl, n0, n1, b0, b1, a1, _⟩ := h.nats
      simp only [Int.toNat_natCast] at HI hk
      obtain ⟨C, hC⟩ : ∃ X, X = pB A N B := ⟨_, rfl⟩
      obtain ⟨P, hPP⟩ : ∃ X, X = pA A N B := ⟨_, rfl⟩
      rw [← hC, ← hPP] at HI
      rw [← hPP] at hk
      have hle : (400 : Int) < (P : Int) := by omega
      clear h hC hPP hk
      go_enter Try.func11, Try.ntmps11
      go_wp2_with (first | (go_at_call 70; refine (HI.out _).mono ?_; rintro e w1 ⟨rfl, hb⟩; have HB := Lib.hid hb; clear hb))
      go_ret2
      exact ⟨_, rfl, Rn.nil _ _, HB.out⟩
  · have hRP : RPer a n b = none := if_neg h
    rw [hRP] at HI
    unfold resP at HI
    simp only [Option.getD_none, Option.isSome_none] at HI
    have HO := Lib.hid (show OK_RepetendOf a n b = false from decide_eq_false (fun c => h c.1))
    have HL := Lib.hid (show LF_RepetendOf a n b = [] from if_neg (fun c => h c.1))
    rw [HO.out, HL.out]
    clear h HO HL hRP
    go_enter Try.func11, Try.ntmps11
    go_wp2_with (first | (go_at_call 70; refine (HI.out _).mono ?_; rintro e w1 ⟨rfl, hb⟩; have HB := Lib.hid hb; clear hb))
    go_ret2
    exact ⟨_, rfl, Rn.nil _ _, HB.out⟩

end Go.Proofs.Ytgiabadkbfbilab
