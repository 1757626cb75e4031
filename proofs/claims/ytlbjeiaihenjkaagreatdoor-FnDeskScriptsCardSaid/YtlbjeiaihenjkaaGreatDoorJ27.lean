/-
  Joint text of ZD, ZE, CS, CB: what each proves stands ahead of it.
-/
import Derived.Test.YtlbjeiaihenjkaaGreatDoorJ26
import Derived.Test.YtlbjeiaihenjkaaGreatDoorJ06
import Derived.Test.YtlbjeiaihenjkaaGreatDoorJ02
import Derived.Laws.ResultCell
import Derived.Laws.Rows
import Derived.Test.YtlbjeiaihenjkaaGreatDoorJ04
import Derived.Test.YtlbjeiaihenjkaaGreatDoorJ10
import Derived.Test.YtlbjeiaihenjkaaGreatDoorJ11
import Derived.Test.YtlbjeiaihenjkaaGreatDoorJ16
import Derived.Test.YtlbjeiaihenjkaaGreatDoorJ21
import Derived.Test.YtlbjeiaihenjkaaGreatDoorJ23
import Derived.Test.YtlbjeiaihenjkaaGreatDoorJ24
import Derived.Lib.SplitLaws
import Derived.Lib.IndexBytes
import Derived.Lib.ItoaNum
import Derived.Lib.Join
/- from ZD: The next palindrome: the model's answer.  -/
namespace Go.Proofs.YtlbjeiaihenjkaaGreatDoor
open Go.RowKit
set_option linter.unusedVariables false
set_option linter.unusedSimpArgs false

theorem fst_small (b n : Int) (hb : 2 ≤ b) (hb' : b ≤ 16) (h0 : 0 ≤ n) (h1 : n ≤ 1000000000000) : 0 ≤ fstH b n ∧ fstH b n + 1 ≤ 1000000000000 := by
  obtain ⟨A, C, h⟩ := halves b n hb h0
  refine ⟨h.pos, ?_⟩
  unfold fstH
  cases hc : (dgs b n).length / 2 with
  | zero =>
    have hp := dgs_pos b n
    have hl := dgs_len b n
    have : n < b := by
      by_cases hbn : b ≤ n
      · rw [revD_big b n hb hbn] at hl
        have h3 := dgs_pos b (n / b)
        rw [dgs_len] at h3
        rw [List.length_cons] at hl
        omega
      · omega
    simp
    omega
  | succ k =>
    have hq : n / b ^ (k + 1) = n / b ^ k / b := by
      rw [Int.pow_succ, Int.ediv_ediv_of_nonneg (Int.pow_nonneg (by omega))]
    have h2 : 0 ≤ n / b ^ k := Int.ediv_nonneg h0 (Int.pow_nonneg (by omega))
    have h3 : n / b ^ k ≤ n := Int.ediv_le_self _ h0
    have h4 := div_half b (n / b ^ k) hb h2
    rw [hq]
    omega

theorem fst_num (b n : Int) (hb : 2 ≤ b) (hb' : b ≤ 16) (h0 : 0 ≤ n) (h1 : n ≤ 1000000000000) : numF b ((dgs b n).take (((dgs b n).length + 1) / 2)) 0 = some (fstH b n) := by
  have hs := fst_small b n hb hb' h0 h1
  rw [numF_val b hb _ 0 (fun x hx => (dgs_all b n hb h0 x (List.mem_of_mem_take hx)).1) (by omega) (by omega), fst_val b n hb h0, if_pos (by omega)]

theorem spec_next_in (n b : Int) (w : World) (h0 : 0 ≤ n) (h1 : n ≤ 1000000000000) (hb : 2 ≤ b) (hb' : b ≤ 16) (hq : Num n ∧ Bas b) :
    Calls Tryz.prog 96 #[.int .i64 n, .int .i64 b] w fun e w' => e = .returned (optRes (RNextPalindrome b n)) ∧ Below w.heap.size w w' := by
  have a1 : decide (Num n ∧ Bas b) = true := decide_eq_true hq
  obtain ⟨D, hD⟩ : ∃ D, D = dgs b n := ⟨_, rfl⟩
  obtain ⟨f, hf⟩ : ∃ f, f = fstH b n := ⟨_, rfl⟩
  obtain ⟨N, hN⟩ : ∃ N, N = dgs b (f + 1) := ⟨_, rfl⟩
  have hlen : D.length ≤ 40 := by rw [hD]; exact dgs_len40 b n hb h0 h1
  have hpos : 1 ≤ D.length := by rw [hD]; exact dgs_pos b n
  obtain ⟨f0, f1⟩ : 0 ≤ f ∧ f + 1 ≤ 1000000000000 := by rw [hf]; exact fst_small b n hb hb' h0 h1
  have hnl : N.length ≤ 40 := by rw [hN]; exact dgs_len40 b (f + 1) hb (by omega) f1
  have hnp : 1 ≤ N.length := by rw [hN]; exact dgs_pos b (f + 1)
  have HDA := Lib.hid (show ∀ x ∈ D, 0 ≤ x ∧ x ≤ b - 1 by rw [hD]; exact dgs_all b n hb h0)
  have HNA := Lib.hid (show ∀ x ∈ N, 0 ≤ x ∧ x ≤ b - 1 by rw [hN]; exact dgs_all b (f + 1) hb (by omega))
  have HFN := Lib.hid (show numF b (D.take ((D.length + 1) / 2)) 0 = some f by rw [hD, hf]; exact fst_num b n hb hb' h0 h1)
  have HA := Lib.hid (show ∀ m, numF b (mir D) 0 = some m → n < m → RNextPalindrome b n = some m by rw [hD]; exact fun m => next_a b n m hb h0)
  have HO := Lib.hid (show (∀ m, numF b (mir D) 0 = some m → m ≤ n) → RNextPalindrome b n = if (D.length + 1) / 2 < N.length then numF b (ends D.length) 0 else numF b (mir (N ++ D.drop ((D.length + 1) / 2))) 0 by rw [hN, hD, hf]; exact fun h => next_o b n hb h0 (fun m e => Int.not_lt.2 (h m e)))
  have HD := Lib.hid hD
  have HN := Lib.hid hN
  clear hD hN hf hq
  go_enter Tryz.func96, Tryz.ntmps96
  go_wp2_with fail
  refine (dgAsked_any _ _ _).mono ?_
  rintro e w0 ⟨rfl, rfl⟩
  go_wp2_with fail
  refine (dgOf_s _ _ _ h0 h1 hb hb').mono ?_
  rintro e w1 ⟨g, cap, rfl, hr, hbl⟩
  rw [← HD.out] at hr
  rw [← HD.out]
  have HB1 := Lib.hid hbl
  have HR1 := Lib.hid hr
  clear hbl hr
  go_wp2_with fail
  refine (dgMirrored_any _ D _ _ HR1.out hpos (by omega)).mono ?_
  rintro e w2 ⟨g2, cap2, rfl, hr, hbl⟩
  have HM2 := Lib.hid hr
  have HR2 := Lib.hid (HR1.out.keep hbl)
  have HB2 := Lib.hid (Below.step HB1.out HB1.out.size hbl)
  clear hbl hr
  go_wp2_with fail
  refine (dgFrom_any _ _ _ _ _ HM2.out (fun x hx => by have := HDA.out x (mir_mem hx); omega) hb hb' (by rw [mir_len]; omega)).mono ?_
  rintro e w3 ⟨rfl, rfl⟩
  obtain ⟨X, hX⟩ : ∃ X, X = numF b (mir D) 0 := ⟨_, rfl⟩
  have HX := Lib.hid hX
  rw [← HX.out]
  clear hX
  have hcap := HR2.out.at.2.2.2.1
  by_cases hgood : ∃ m, X = some m ∧ n < m
  · obtain ⟨m, rfl, hm⟩ := hgood
    have HF := Lib.hid (HA.out m HX.out.symm hm)
    have hm' : ¬ m ≤ n := by omega
    go_wp2
    go_ret2
    exact ⟨by rw [HF.out]; rfl, HB2.out⟩
  · have hall : ∀ m, X = some m → m ≤ n := fun m e => Int.not_lt.1 (fun hm => hgood ⟨m, e, hm⟩)
    have HF := Lib.hid (HO.out (fun m e => hall m (HX.out.trans e)))
    clear hgood HX HO HA
    have hhalf : (D.length + 1) / 2 ≤ D.length := by omega
    have HT := Lib.hid (HR2.out.take ((D.length + 1) / 2) hhalf)
    have HTA := Lib.hid (show ∀ x ∈ D.take ((D.length + 1) / 2), 0 ≤ x ∧ x ≤ b - 1 from fun x hx => HDA.out x (List.mem_of_mem_take hx))
    have HTL := Lib.hid (show (D.take ((D.length + 1) / 2)).length ≤ 1000000 by rw [List.length_take]; omega)
    have hf0 : 0 ≤ f + 1 := by omega
    have hsz2 := HB2.out.size
    cases X
    case' some m =>
      have hm : m ≤ n := hall m rfl
    all_goals
      clear hall
      go_wp2_with fail
      refine (dgFrom_any _ _ _ _ _ HT.out (fun x hx => by have := HTA.out x hx; omega) hb hb' HTL.out).mono ?_
      rintro e w3 ⟨rfl, rfl⟩
      rw [HFN.out]
      go_wp2_with fail
      refine (dgOf_s _ _ _ hf0 f1 hb hb').mono ?_
      rintro e w4 ⟨g4, cap4, rfl, hr, hbl⟩
      rw [← HN.out] at hr
      rw [← HN.out]
      have HR4 := Lib.hid (HR2.out.keep hbl)
      have HN4 := Lib.hid hr
      have HB4 := Lib.hid (Below.step HB2.out HB2.out.size hbl)
      have Z4 := HB4.out.size
      have Z42 := hbl.size
      have AP := Lib.hid (Rd.apart (u := .slice (some ⟨g, 0, none⟩) D.length cap) (fun k hk => (HR2.out.lt k hk).2) hr)
      clear hbl hr
      by_cases hlong : (D.length + 1) / 2 < N.length
      · have HF2 := Lib.hid (show RNextPalindrome b n = numF b (ends D.length) 0 by rw [HF.out, if_pos hlong])
        go_wp2_with (at_make; refine wpList_mkR rfl _ _ rfl .i64 .i64 _ _ (D.length + 1) rfl rfl (by omega) (by omega) (by omega) ?_; intro w5 hr5 hg5 hb5; (obtain ⟨q0, c0⟩ : ∃ q, w5.cell? ⟨w4.heap.size, 0, none⟩ = some (.int .i64 q) := ⟨_, hr5.at.2.2.2.2.1 0 (by simp)⟩); (obtain ⟨q1, c1⟩ : ∃ q, w5.cell? ⟨w4.heap.size, D.length, none⟩ = some (.int .i64 q) := ⟨_, hr5.at.2.2.2.2.1 D.length (by simp)⟩); have fz0 := hr5.at.2.2.2.2.2 0; have fz1 := hr5.at.2.2.2.2.2 D.length; have R5 := Lib.hid hr5; have B5 := Lib.hid (Below.step HB4.out Z4 hb5); clear hr5 hg5 hb5)
        have h2 := R5.out.set 0 1
        have h3 := h2.1.set D.length 1
        have R6 := Lib.hid h3.1
        have B6 := Lib.hid (B5.out.trans (grown_below (grown_trans h2.2 h3.2) B5.out.size (by omega)))
        have hel : (ends D.length).length = D.length + 1 := by unfold ends; simp
        have hea : ∀ x ∈ ends D.length, x = 0 ∨ x = 1 := by
          obtain ⟨k, hk⟩ : ∃ k, D.length = k + 1 := ⟨D.length - 1, by omega⟩
          rw [hk]
          exact ends_all k
        have HEA := Lib.hid hea
        clear h2 h3 hea
        refine (dgFrom_any _ (ends D.length) _ _ _ R6.out (fun x hx => by have := HEA.out x hx; omega) hb hb' (by omega)).mono ?_
        rintro e w7 ⟨rfl, rfl⟩
        clear hel
        rw [← HF2.out]
        go_wp2
        go_ret2
        exact ⟨rfl, B6.out⟩
      · have HF2 := Lib.hid (show RNextPalindrome b n = numF b (mir (N ++ D.drop ((D.length + 1) / 2))) 0 by rw [HF.out, if_neg hlong])
        by_cases hcl : (D.length + 1) / 2 < cap
        rotate_left
        · obtain rfl : cap = (D.length + 1) / 2 := by omega
          go_wp2_with (at_builtin; refine wpList_appS rfl (.tmp 69) (.tmp 72) rfl _ _ _ N (D.drop ((D.length + 1) / 2)) rfl rfl HN4.out (src_drop HR4.out ((D.length + 1) / 2) _ _ _ hhalf (fun h => by first | rfl | omega) (by omega)) (by simp; omega) Z42 ?_; intro v5 w5 hr5 hg5 hb5; have R5 := Lib.hid hr5; have B5 := Lib.hid (HB4.out.trans (hb5.mono hsz2)); clear hr5 hg5 hb5)
          obtain ⟨K, hK⟩ : ∃ K, K = N ++ D.drop ((D.length + 1) / 2) := ⟨_, rfl⟩
          have hKl : 1 ≤ K.length ∧ K.length ≤ 1000 := by rw [hK, List.length_append, List.length_drop]; omega
          have HKA := Lib.hid (show ∀ x ∈ K, 0 ≤ x ∧ x ≤ b - 1 from fun x hx => by
            rw [hK] at hx
            rcases List.mem_append.1 hx with hx | hx
            · exact HNA.out x hx
            · exact HDA.out x (List.mem_of_mem_drop hx))
          rw [← hK] at R5 HF2
          obtain ⟨k1, k2⟩ := hKl
          clear hK
          refine (dgMirrored_any _ K _ _ R5.out k1 (by omega)).mono ?_
          rintro e w6 ⟨g6, cap6, rfl, hr, hbl⟩
          have R6 := Lib.hid hr
          have B6 := Lib.hid (Below.step B5.out B5.out.size hbl)
          clear hr hbl
          go_wp2_with fail
          refine (dgFrom_any _ _ _ _ _ R6.out (fun x hx => by have := HKA.out x (mir_mem hx); omega) hb hb' (by rw [mir_len]; omega)).mono ?_
          rintro e w7 ⟨rfl, rfl⟩
          rw [← HF2.out]
          go_wp2
          go_ret2
          exact ⟨rfl, B6.out⟩
        · go_wp2_with (at_builtin; refine wpList_appS rfl (.tmp 69) (.tmp 72) rfl _ _ _ N (D.drop ((D.length + 1) / 2)) rfl rfl HN4.out (src_drop HR4.out ((D.length + 1) / 2) _ _ _ hhalf (fun h => by first | rfl | omega) (by omega)) (by simp; omega) Z42 ?_; intro v5 w5 hr5 hg5 hb5; have R5 := Lib.hid hr5; have B5 := Lib.hid (HB4.out.trans (hb5.mono hsz2)); clear hr5 hg5 hb5)
          obtain ⟨K, hK⟩ : ∃ K, K = N ++ D.drop ((D.length + 1) / 2) := ⟨_, rfl⟩
          have hKl : 1 ≤ K.length ∧ K.length ≤ 1000 := by rw [hK, List.length_append, List.length_drop]; omega
          have HKA := Lib.hid (show ∀ x ∈ K, 0 ≤ x ∧ x ≤ b - 1 from fun x hx => by
            rw [hK] at hx
            rcases List.mem_append.1 hx with hx | hx
            · exact HNA.out x hx
            · exact HDA.out x (List.mem_of_mem_drop hx))
          rw [← hK] at R5 HF2
          obtain ⟨k1, k2⟩ := hKl
          clear hK
          refine (dgMirrored_any _ K _ _ R5.out k1 (by omega)).mono ?_
          rintro e w6 ⟨g6, cap6, rfl, hr, hbl⟩
          have R6 := Lib.hid hr
          have B6 := Lib.hid (Below.step B5.out B5.out.size hbl)
          clear hr hbl
          go_wp2_with fail
          refine (dgFrom_any _ _ _ _ _ R6.out (fun x hx => by have := HKA.out x (mir_mem hx); omega) hb hb' (by rw [mir_len]; omega)).mono ?_
          rintro e w7 ⟨rfl, rfl⟩
          rw [← HF2.out]
          go_wp2
          go_ret2
          exact ⟨rfl, B6.out⟩

end Go.Proofs.YtlbjeiaihenjkaaGreatDoor

/- from ZE: The program's functions of a number and a base, from the questions' contracts (written by wip/tools/gen_ask.py).  -/
namespace Go.Proofs.YtlbjeiaihenjkaaGreatDoor
open Go.RowKit
set_option linter.unusedVariables false
set_option linter.unusedSimpArgs false


theorem tell_nextPalindrome (n b : Int) (w : World) :
    Calls Tryz.prog 50 #[.int .i64 n, .int .i64 b, .func (Fn.func 174) #[] #[]] w fun e w' => e = .returned (optRes (askF RNextPalindrome n b)) ∧ Below w.heap.size w w' := by
  by_cases hn : Num n
  · have a1 : decide (Num n) = true := decide_eq_true hn
    by_cases hB : Bas b
    · have a2 : decide (Bas b) = true := decide_eq_true hB
      have hR := Lib.hid (show askF RNextPalindrome n b = RNextPalindrome b n from if_pos ⟨hn, hB⟩)
      obtain ⟨n0, n1⟩ := hn
      obtain ⟨b0, b1⟩ := hB
      go_enter Tryz.func50, Tryz.ntmps50
      go_wp2_with (first | (go_at_call 46; refine (isNumber_any _ _).mono ?_; rintro e w1 ⟨rfl, rfl⟩) | (go_at_call 47; refine (isBase_any _ _).mono ?_; rintro e w1 ⟨rfl, rfl⟩) | (go_at_call 174; refine (nextPalindrome_any _ _ _ n0 n1 b0 b1).mono ?_; rintro e w1 ⟨rfl, hbl⟩; have HB := Lib.hid hbl; clear hbl))
      go_ret2
      exact ⟨by rw [hR.out]; rfl, HB.out⟩
    · have a2 : decide (Bas b) = false := decide_eq_false hB
      have hR := Lib.hid (show askF RNextPalindrome n b = none from if_neg (fun h => hB h.2))
      clear hn hB
      go_enter Tryz.func50, Tryz.ntmps50
      go_wp2_with (first | (go_at_call 46; refine (isNumber_any _ _).mono ?_; rintro e w1 ⟨rfl, rfl⟩) | (go_at_call 47; refine (isBase_any _ _).mono ?_; rintro e w1 ⟨rfl, rfl⟩))
      go_ret2
      exact ⟨by rw [hR.out]; rfl, Below.refl _ _⟩
  · have a1 : decide (Num n) = false := decide_eq_false hn
    have hR := Lib.hid (show askF RNextPalindrome n b = none from if_neg (fun h => hn h.1))
    clear hn
    go_enter Tryz.func50, Tryz.ntmps50
    go_wp2_with (first | (go_at_call 46; refine (isNumber_any _ _).mono ?_; rintro e w1 ⟨rfl, rfl⟩) | (go_at_call 47; refine (isBase_any _ _).mono ?_; rintro e w1 ⟨rfl, rfl⟩))
    go_ret2
    exact ⟨by rw [hR.out]; rfl, Below.refl _ _⟩

theorem impl_NextPalindrome (n b : Int) (w : World) :
    Calls Tryz.prog 117 #[.int .i64 n, .int .i64 b] w fun e w' => e = .returned (optRes (askF RNextPalindrome n b)) ∧ Below w.heap.size w w' := by
  go_enter Tryz.func117, Tryz.ntmps117
  go_wp2_with (go_at_call 50; refine (tell_nextPalindrome _ _ _).mono ?_; rintro e w1 ⟨rfl, hbl⟩; have HB := Lib.hid hbl; clear hbl)
  go_ret2
  exact ⟨rfl, HB.out⟩

theorem spec_NextPalindrome (n b : Int) (w : World) :
    Calls Tryz.prog 96 #[.int .i64 n, .int .i64 b] w fun e w' => e = .returned (optRes (askF RNextPalindrome n b)) ∧ Below w.heap.size w w' := by
  by_cases hq : Num n ∧ Bas b
  · rw [show askF RNextPalindrome n b = RNextPalindrome b n from if_pos hq]
    exact spec_next_in n b w hq.1.1 hq.1.2 hq.2.1 hq.2.2 hq
  · have a1 : decide (Num n ∧ Bas b) = false := decide_eq_false hq
    have hR := Lib.hid (show askF RNextPalindrome n b = none from if_neg hq)
    clear hq
    go_enter Tryz.func96, Tryz.ntmps96
    go_wp2_with (go_at_call 53; refine (dgAsked_any _ _ _).mono ?_; rintro e w1 ⟨rfl, rfl⟩)
    go_ret2
    exact ⟨by rw [hR.out]; rfl, Below.refl _ _⟩

end Go.Proofs.YtlbjeiaihenjkaaGreatDoor

/- from CS: Structs of any number of cells: loaded whole, handed back from a cell of the function's.  -/
namespace Go.Proofs.YtlbjeiaihenjkaaGreatDoor
open Go.RowKit
set_option linter.unusedVariables false
set_option linter.unusedSimpArgs false
set_option maxRecDepth 100000

theorem alloc_belowD (w : World) (o : Obj) : Below w.heap.size w (w.alloc o) := (Below.refl _ _).alloc (Nat.le_refl _) o

/-- Block s begins with these cells. -/
def CellsS (w : World) (s : Nat) (vs : List Value) : Prop := ∀ j v, vs[j]? = some v → w.cell? ⟨s, j, none⟩ = some v
theorem CellsS.keep {w w' : World} {s B : Nat} {vs : List Value} (h : CellsS w s vs) (hb : Below B w w') (hs : s < B) : CellsS w' s vs :=
  fun j v hv => (hb.cell (p := ⟨s, j, none⟩) hs).trans (h j v hv)

theorem load_struct {T : TypeId} {d : TypeDesc} (hu : Tryz.prog.underlying T = some d) (hd : (match d with | .struct _ | .array _ _ => true | _ => false) = true) (vs : List Value) (hi : (Tryz.prog.info? T).map (·.size) = some vs.length)
    (w : World) (s : Nat) (h : CellsS w s vs) : (loadVar T ⟨s, 0, none⟩).run Tryz.prog w = .ok (.agg vs.toArray) w := by
  have hl : (loadCells ⟨s, 0, none⟩ vs.length).run Tryz.prog w = .ok vs.toArray w :=
    run_loadCells_list (P := Tryz.prog) w ⟨s, 0, none⟩ vs (fun j v hv => by
      have hadd : (⟨s, 0, none⟩ : Addr).add j = ⟨s, 0 + j, none⟩ := by unfold Addr.add; split <;> simp_all
      rw [hadd, Nat.zero_add]
      exact h j v hv)
  cases hq : Tryz.prog.info? T with
  | none => simp [hq] at hi
  | some i =>
    have hs : i.size = vs.length := by simpa [hq] using hi
    have hagg : (isAgg T).run Tryz.prog w = .ok true w := by
      unfold isAgg
      rw [Sem.run_bind, run_underlying hu w]
      cases d <;> simp_all
    simp [loadVar, Sem.run_bind, hagg, sizeOf, typeInfo, hq, hs, hl]

theorem results_one {P : Program} {fn : Func} {p : Tmp} {ty : TypeId} (h : fn.results = #[.cell p ty]) (tmps : Array Value) (w : World) (s : Nat) (v : Value) (hp : tmps.getD p undef = .pointer (some ⟨s, 0, none⟩)) (hl : (loadVar ty ⟨s, 0, none⟩).run P w = .ok v w) :
    (results fn tmps).run P w = .ok v w := by
  have hp' : tmps[p]?.getD undef = .pointer (some ⟨s, 0, none⟩) := by simpa using hp
  simp [results, h, hp', asAddr, hl]
theorem results_two {P : Program} {fn : Func} {p u : Tmp} {ty : TypeId} (h : fn.results = #[.cell p ty, .tmp u]) (tmps : Array Value) (w : World) (s : Nat) (v : Value) (hp : tmps.getD p undef = .pointer (some ⟨s, 0, none⟩)) (hl : (loadVar ty ⟨s, 0, none⟩).run P w = .ok v w) :
    (results fn tmps).run P w = .ok (.tuple #[v, tmps.getD u undef]) w := by
  rw [results_cell_tmp h, hp]
  simp [asAddr, hl, Result.andThen]
theorem results_three {P : Program} {fn : Func} {p u t : Tmp} {ty : TypeId} (h : fn.results = #[.cell p ty, .tmp u, .tmp t]) (tmps : Array Value) (w : World) (s : Nat) (v : Value) (hp : tmps.getD p undef = .pointer (some ⟨s, 0, none⟩)) (hl : (loadVar ty ⟨s, 0, none⟩).run P w = .ok v w) :
    (results fn tmps).run P w = .ok (.tuple #[v, tmps.getD u undef, tmps.getD t undef]) w := by
  have hp' : tmps[p]?.getD undef = .pointer (some ⟨s, 0, none⟩) := by simpa using hp
  simp [results, h, hp', asAddr, hl, Sem.run_bind, Result.andThen]
theorem results_mid {P : Program} {fn : Func} {p u t : Tmp} {ty : TypeId} (h : fn.results = #[.tmp u, .cell p ty, .tmp t]) (tmps : Array Value) (w : World) (s : Nat) (v : Value) (hp : tmps.getD p undef = .pointer (some ⟨s, 0, none⟩)) (hl : (loadVar ty ⟨s, 0, none⟩).run P w = .ok v w) :
    (results fn tmps).run P w = .ok (.tuple #[tmps.getD u undef, v, tmps.getD t undef]) w := by
  have hp' : tmps[p]?.getD undef = .pointer (some ⟨s, 0, none⟩) := by simpa using hp
  simp [results, h, hp', asAddr, hl, Sem.run_bind, Result.andThen]

/-- A desk as a value. -/
abbrev dsk (n b : Int) : Value := .agg #[.int .i64 n, .int .i64 b]
theorem infoDk : (Tryz.prog.info? 24).map (·.size) = some 2 := by kernel_rfl
theorem infoDl : (Tryz.prog.info? 23).map (·.size) = some 2 := by kernel_rfl
theorem load_dk (w : World) (s : Nat) (n b : Int) (h0 : w.cell? ⟨s, 0, none⟩ = some (.int .i64 n)) (h1 : w.cell? ⟨s, 1, none⟩ = some (.int .i64 b)) : (loadVar 24 ⟨s, 0, none⟩).run Tryz.prog w = .ok (dsk n b) w :=
  load_struct Tryz.underlying24 rfl [.int .i64 n, .int .i64 b] infoDk w s (fun j v hv => by
    match j, hv with
    | 0, hv => simp at hv; subst hv; exact h0
    | 1, hv => simp at hv; subst hv; exact h1
    | j + 2, hv => simp at hv)

end Go.Proofs.YtlbjeiaihenjkaaGreatDoor

/- from CB: The console, plain: texts cut at a byte, decimal numbers, what each line does.  -/
namespace Go.Proofs.YtlbjeiaihenjkaaGreatDoor
open Go.RowKit
set_option linter.unusedVariables false
set_option linter.unusedSimpArgs false
set_option maxRecDepth 100000

abbrev Tx := List UInt8

/-- A text cut at each byte c, behind letters that are read already. -/
def spA (c : UInt8) : Tx → Tx → List Tx
  | acc, [] => [acc]
  | acc, x :: l => if x = c then acc :: spA c [] l else spA c (acc ++ [x]) l
abbrev spl (c : UInt8) (l : Tx) : List Tx := spA c [] l

theorem spA_pos (c : UInt8) : ∀ (l acc : Tx), 1 ≤ (spA c acc l).length
  | [], _ => by simp [spA]
  | x :: l, acc => by
    unfold spA
    split
    · simp
    · exact spA_pos c l _
theorem spA_len (c : UInt8) : ∀ (l acc : Tx), (spA c acc l).length = l.count c + 1
  | [], _ => by simp [spA]
  | x :: l, acc => by
    unfold spA
    split
    · rename_i h; subst h; simp [spA_len x l []]
    · rename_i h; rw [spA_len c l _, List.count_cons_of_ne (by simpa using h)]

theorem indexByte_at (c : UInt8) : ∀ (acc l : Tx), c ∉ acc → Lib.indexByte (acc ++ c :: l) c = acc.length
  | [], l, _ => by simp [Lib.indexByte]
  | a :: acc, l, h => by
    have ha : (a == c) = false := by simp; intro e; exact h (by simp [e])
    have ih := indexByte_at c acc l (fun hm => h (by simp [hm]))
    rw [List.cons_append, Lib.indexByte, ha]
    simp only [Bool.false_eq_true, if_false]
    rw [ih, if_neg (by simp)]
    simp
theorem splitK_spA (c : UInt8) : ∀ (l acc : Tx), c ∉ acc → Lib.splitK [c] 0 (l.count c) (acc ++ l) = spA c acc l
  | [], acc, _ => by simp [Lib.splitK, spA]
  | x :: l, acc, h => by
    unfold spA
    by_cases hx : x = c
    · subst hx
      rw [if_pos rfl, List.count_cons_self, Lib.splitK, Lib.index_one, indexByte_at x acc l h, if_neg (by simp)]
      have := splitK_spA x l [] (by simp)
      rw [List.nil_append] at this
      simp [this]
    · rw [if_neg hx, List.count_cons_of_ne (by simpa using hx)]
      have := splitK_spA c l (acc ++ [x]) (by simp [h]; exact fun e => hx e.symm)
      rw [← this, List.append_assoc]
      rfl

/-- Decimal numbers of lists with commas between. -/
def jnT (l : List Int) : Tx := Lib.join (l.map Lib.itoa) [44]
/-- A text that may be empty. -/
def orD (t : Tx) : Tx := if t = [] then [45] else t

/-- What a line replies. -/
inductive Rp where
  | no : Rp
  | what : Rp
  | say (t : Tx) : Rp
def Rp.txt : Rp → Tx
  | .no => [110, 111]
  | .what => [119, 104, 97, 116]
  | .say t => t

/-- The text of a decimal number below a million. -/
def rdN (cs : Tx) : Option Int := match RParse 10 cs with
  | some k => if k ≤ 999999 then some k else none
  | none => none
/-- Letters 0 and 1 alone. -/
def okL (t : Tx) : Bool := t.all isL

def becF (n b : Int) : Option Int → Int × Int × Rp
  | none => (n, b, .no)
  | some m => (m, b, .say (RText m b))
def sayF (n b : Int) : Option Tx → Int × Int × Rp
  | none => (n, b, .no)
  | some t => (n, b, .say (orD t))
def numR (n b : Int) (o : Option Int) : Int × Int × Rp := sayF n b (o.map Lib.itoa)
def lstF (n b : Int) (ok : Bool) (l : List Int) : Int × Int × Rp := sayF n b (if ok then some (jnT l) else none)

def aloneF (n b : Int) (x : Tx) : Int × Int × Rp :=
  if x = [114, 101, 118, 101, 114, 115, 101] then becF n b (askF RReverseNumber n b) else
  if x = [117, 112] then becF n b (askF RSortedUp n b) else
  if x = [100, 111, 119, 110] then becF n b (askF RSortedDown n b) else
  if x = [115, 116, 101, 112] then becF n b (ledW 1 n) else
  if x = [115, 104, 111, 114, 116] then becF n b (ledS n) else
  if x = [110, 101, 120, 116] then becF n b (askF RNextPalindrome n b) else
  if x = [115, 104, 111, 119] then (n, b, .say (RText n b)) else
  if x = [100, 105, 103, 105, 116, 115] then lstF n b true (dgs b n) else
  if x = [115, 117, 109] then numR n b (askI RDigitSum n b) else
  if x = [114, 111, 111, 116] then numR n b (askI RDigitalRoot n b) else
  if x = [119, 97, 121, 115] then numR n b (askI RCountRearranged n b) else
  if x = [104, 97, 112, 112, 121] then (n, b, .say (if hap b.toNat n.toNat then [121, 101, 115] else [115, 97, 100])) else
  if x = [115, 116, 101, 112, 115] then numR n b (RStepsTo n) else
  (n, b, .what)

def numF2 (n b : Int) (x : Tx) (k : Int) : Int × Int × Rp :=
  if x = [98, 97, 115, 101] then (if Bas k then (n, k, .say [111, 107]) else (n, b, .no)) else
  if x = [112, 111, 119, 101, 114] then becF n b (if OK3 n b k 8 then some (V_PowerSum n b k) else none) else
  if x = [114, 117, 110] then lstF n b (OK3 n b k 4) (LF_PowerRun n b k) else
  if x = [111, 119, 110] then lstF n b (OKO b k) (LF_OwnPowers b k) else
  if x = [119, 111, 114, 100] then sayF n b (RWd n k) else
  (n, b, .what)
def withF (n b : Int) (x y : Tx) : Int × Int × Rp :=
  if x = [116, 97, 107, 101] then (match RParse b y with | some m => becF n b (some m) | none => (n, b, .what)) else
  if x = [110, 117, 109, 98, 101, 114] then (if okL y then numR n b (RNumberOfWord ⟨y.toArray⟩) else (n, b, .what)) else
  match rdN y with
  | some k => numF2 n b x k
  | none => (n, b, .what)
def lineF (n b : Int) : List Tx → Int × Int × Rp
  | [x] => aloneF n b x
  | [x, y] => withF n b x y
  | _ => (n, b, .what)

end Go.Proofs.YtlbjeiaihenjkaaGreatDoor
