/-
  Joint text of CV: what each proves stands ahead of it.
-/
import Derived.Test.YtlbjeiaihenjkaaGreatDoorJ36
import Derived.Test.YtlbjeiaihenjkaaGreatDoorJ21
/- from CV: The model's lines that ask.  -/
namespace Go.Proofs.YtlbjeiaihenjkaaGreatDoor
open Go.RowKit
set_option linter.unusedVariables false
set_option linter.unusedSimpArgs false
set_option maxRecDepth 100000

set_option maxHeartbeats 2000000 in
theorem asked_show (g : Nat) (n b m : Int) (t : Tx) (nv : Value) (x : Tx) (hx : x = [115, 104, 111, 119]) (hN : Num n) (hB : Bas b) (w : World) (h : Ln w g n b m t nv) :
    Calls Tryz.prog 56 #[.pointer (some ⟨g, 0, none⟩), str x] w fun e w' => e = .returned (str (RText n b)) ∧ Below w.heap.size w w' := by
  have q0 : (x == [115, 104, 111, 119]) = true := by rw [hx]; rfl
  clear hx
  have HH := Lib.hid h
  have c0 := h.c0
  have c1 := h.c1
  have HT := Lib.hid (fun W => dgText_any n b W hN.1 hN.2 hB.1 hB.2)
  rw [show txt (dgs b n) = RText n b from (if_pos ⟨hN, hB⟩).symm] at HT
  obtain ⟨T, hT⟩ : ∃ T, T = RText n b := ⟨_, rfl⟩
  rw [← hT] at HT ⊢
  clear hT hN hB h
  go_enter Tryz.func56, Tryz.ntmps56
  go_wp2
  go_region
  all_goals
    go_wp2_with fail
    refine (HT.out _).mono ?_
    rintro e w1 ⟨rfl, hb⟩
    have HB1 := Lib.hid (show Below w.heap.size w w1 from (Below.refl _ _).drew.trans hb)
    clear hb
    go_wp2
    go_ret
    exact ⟨rfl, HB1.out⟩
set_option maxHeartbeats 2000000 in
theorem asked_digits (g : Nat) (n b m : Int) (t : Tx) (nv : Value) (x : Tx) (hx : x = [100, 105, 103, 105, 116, 115]) (hN : Num n) (hB : Bas b) (w : World) (h : Ln w g n b m t nv) :
    Calls Tryz.prog 56 #[.pointer (some ⟨g, 0, none⟩), str x] w fun e w' => e = .returned (str (orD (jnT (dgs b n)))) ∧ Below w.heap.size w w' := by
  have q0 : (x == [115, 104, 111, 119]) = false := by rw [hx]; rfl
  have q1 : (x == [100, 105, 103, 105, 116, 115]) = true := by rw [hx]; rfl
  clear hx
  have HH := Lib.hid h
  have c0 := h.c0
  have c1 := h.c1
  have HD := Lib.hid (fun W => dgOf_s n b W hN.1 hN.2 hB.1 hB.2)
  have HC := Lib.hid (fun v D W hv => coText_any (dgs b n) (dgs_nice hN hB) v D W hv)
  obtain ⟨T, hT⟩ : ∃ T, T = orD (jnT (dgs b n)) := ⟨_, rfl⟩
  rw [← hT] at HC ⊢
  obtain ⟨ds, hds⟩ : ∃ ds, ds = dgs b n := ⟨_, rfl⟩
  rw [← hds] at HC HD
  obtain ⟨L, hL⟩ : ∃ L, L = ds.length := ⟨_, rfl⟩
  rw [← hL] at HD
  clear hT hN hB h hds hL
  go_enter Tryz.func56, Tryz.ntmps56
  go_wp2
  go_region
  all_goals
    go_wp2_with fail
    refine (HD.out _).mono ?_
    rintro e w1 ⟨gd, cd, rfl, hr, hb⟩
    have HB1 := Lib.hid (show Below w.heap.size w w1 from (Below.refl _ _).drew.trans hb)
    have HR1 := Lib.hid hr
    clear hb hr
    go_wp2_with fail
    refine (HC.out _ _ _ HR1.out).mono ?_
    rintro e w2 ⟨rfl, hb⟩
    have HB2 := Lib.hid (show Below w.heap.size w w2 from HB1.out.trans (hb.mono HB1.out.size))
    clear hb
    go_wp2
    go_ret
    exact ⟨rfl, HB2.out⟩
set_option maxHeartbeats 2000000 in
theorem asked_sum (g : Nat) (n b m : Int) (t : Tx) (nv : Value) (x : Tx) (hx : x = [115, 117, 109]) (hN : Num n) (hB : Bas b) (w : World) (h : Ln w g n b m t nv) :
    Calls Tryz.prog 56 #[.pointer (some ⟨g, 0, none⟩), str x] w fun e w' => e = .returned (str (Lib.itoa (RDigitSum b n))) ∧ Below w.heap.size w w' := by
  have q0 : (x == [115, 104, 111, 119]) = false := by rw [hx]; rfl
  have q1 : (x == [100, 105, 103, 105, 116, 115]) = false := by rw [hx]; rfl
  have q2 : (x == [115, 117, 109]) = true := by rw [hx]; rfl
  clear hx
  have HH := Lib.hid h
  have c0 := h.c0
  have c1 := h.c1
  have HD := Lib.hid (fun W => dgOf_s n b W hN.1 hN.2 hB.1 hB.2)
  have HA := Lib.hid (dgs_all b n hB.1 hN.1)
  have HL40 := Lib.hid (dgs_len40 b n hB.1 hN.1 hN.2)
  have hb16 := hB.2
  have HS := Lib.hid (fun v D W (hv : Rd W D v (dgs b n)) => dgSum_any v (dgs b n) D W hv (fun z hz => by have := HA.out z hz; omega) (by have := HL40.out; omega))
  have hsp := sum_pos n b (RDigitSum b n) (if_pos ⟨hN, hB⟩)
  have HI := Lib.hid (fun W => l1Num_i (RDigitSum b n) hsp.1 hsp.2 W)
  obtain ⟨T, hT⟩ : ∃ T, T = Lib.itoa (RDigitSum b n) := ⟨_, rfl⟩
  rw [← hT] at HI ⊢
  obtain ⟨z, hz⟩ : ∃ z, z = (dgs b n).sum := ⟨_, rfl⟩
  rw [show RDigitSum b n = z from hz.symm] at HI hsp
  rw [← hz] at HS
  obtain ⟨ds, hds⟩ : ∃ ds, ds = dgs b n := ⟨_, rfl⟩
  rw [← hds] at HS HD
  obtain ⟨L, hL⟩ : ∃ L, L = ds.length := ⟨_, rfl⟩
  rw [← hL] at HD
  clear hT hN hB h hds hL hz hb16 HA HL40
  go_enter Tryz.func56, Tryz.ntmps56
  go_wp2
  go_region
  all_goals
    go_wp2_with fail
    refine (HD.out _).mono ?_
    rintro e w1 ⟨gd, cd, rfl, hr, hb⟩
    have HB1 := Lib.hid (show Below w.heap.size w w1 from (Below.refl _ _).drew.trans hb)
    have HR1 := Lib.hid hr
    clear hb hr
    go_wp2_with fail
    refine (HS.out _ _ _ HR1.out).mono ?_
    rintro e w2 ⟨rfl, rfl⟩
    go_wp2_with fail
    refine (HI.out _).mono ?_
    rintro e w2 ⟨rfl, hb⟩
    have HB2 := Lib.hid (show Below w.heap.size w w2 from HB1.out.trans (hb.mono HB1.out.size))
    clear hb
    go_wp2
    go_ret
    exact ⟨rfl, HB2.out⟩
set_option maxHeartbeats 2000000 in
theorem asked_root (g : Nat) (n b m : Int) (t : Tx) (nv : Value) (x : Tx) (hx : x = [114, 111, 111, 116]) (hN : Num n) (hB : Bas b) (w : World) (h : Ln w g n b m t nv) :
    Calls Tryz.prog 56 #[.pointer (some ⟨g, 0, none⟩), str x] w fun e w' => e = .returned (str (noT ((askI RDigitalRoot n b).map Lib.itoa))) ∧ Below w.heap.size w w' := by
  have q0 : (x == [115, 104, 111, 119]) = false := by rw [hx]; rfl
  have q1 : (x == [100, 105, 103, 105, 116, 115]) = false := by rw [hx]; rfl
  have q2 : (x == [115, 117, 109]) = false := by rw [hx]; rfl
  have q3 : (x == [114, 111, 111, 116]) = true := by rw [hx]; rfl
  clear hx
  have HH := Lib.hid h
  have c0 := h.c0
  have c1 := h.c1
  have HF := Lib.hid (fun W => spec_DigitalRoot n b W)
  have HC := Lib.hid (fun W => coNumber_any (askI RDigitalRoot n b) (root_pos n b) W)
  obtain ⟨O, hO⟩ : ∃ O, O = askI RDigitalRoot n b := ⟨_, rfl⟩
  rw [← hO] at HF HC ⊢
  obtain ⟨z, hz⟩ : ∃ z, z = O.getD 0 := ⟨_, rfl⟩
  obtain ⟨ok, hok⟩ : ∃ ok, ok = O.isSome := ⟨_, rfl⟩
  obtain ⟨T, hT⟩ : ∃ T, T = noT (O.map Lib.itoa) := ⟨_, rfl⟩
  have HF' := Lib.hid (show ∀ W, Calls Tryz.prog 101 #[.int .i64 n, .int .i64 b] W fun e w'' => e = .returned (.tuple #[.int .i64 z, .bool ok]) ∧ Below W.heap.size W w'' by rw [hz, hok]; exact HF.out)
  rw [← hz, ← hok, ← hT] at HC
  rw [← hT]
  clear hT hz hok hO HF hN hB h
  go_enter Tryz.func56, Tryz.ntmps56
  go_wp2
  go_region
  all_goals
    go_wp2_with fail
    refine (HF'.out _).mono ?_
    rintro e w1 ⟨rfl, hb⟩
    have HB1 := Lib.hid (show Below w.heap.size w w1 from (Below.refl _ _).drew.trans hb)
    clear hb
    go_wp2_with fail
    refine (HC.out _).mono ?_
    rintro e w2 ⟨rfl, hb⟩
    have HB2 := Lib.hid (show Below w.heap.size w w2 from HB1.out.trans (hb.mono HB1.out.size))
    clear hb
    go_wp2
    go_ret
    exact ⟨rfl, HB2.out⟩
set_option maxHeartbeats 2000000 in
theorem asked_ways (g : Nat) (n b m : Int) (t : Tx) (nv : Value) (x : Tx) (hx : x = [119, 97, 121, 115]) (hN : Num n) (hB : Bas b) (w : World) (h : Ln w g n b m t nv) :
    Calls Tryz.prog 56 #[.pointer (some ⟨g, 0, none⟩), str x] w fun e w' => e = .returned (str (noT ((askI RCountRearranged n b).map Lib.itoa))) ∧ Below w.heap.size w w' := by
  have q0 : (x == [115, 104, 111, 119]) = false := by rw [hx]; rfl
  have q1 : (x == [100, 105, 103, 105, 116, 115]) = false := by rw [hx]; rfl
  have q2 : (x == [115, 117, 109]) = false := by rw [hx]; rfl
  have q3 : (x == [114, 111, 111, 116]) = false := by rw [hx]; rfl
  have q4 : (x == [119, 97, 121, 115]) = true := by rw [hx]; rfl
  clear hx
  have HH := Lib.hid h
  have c0 := h.c0
  have c1 := h.c1
  have HF := Lib.hid (fun W => spec_CountRearranged n b W)
  have HC := Lib.hid (fun W => coNumber_any (askI RCountRearranged n b) (ways_pos n b) W)
  obtain ⟨O, hO⟩ : ∃ O, O = askI RCountRearranged n b := ⟨_, rfl⟩
  rw [← hO] at HF HC ⊢
  obtain ⟨z, hz⟩ : ∃ z, z = O.getD 0 := ⟨_, rfl⟩
  obtain ⟨ok, hok⟩ : ∃ ok, ok = O.isSome := ⟨_, rfl⟩
  obtain ⟨T, hT⟩ : ∃ T, T = noT (O.map Lib.itoa) := ⟨_, rfl⟩
  have HF' := Lib.hid (show ∀ W, Calls Tryz.prog 102 #[.int .i64 n, .int .i64 b] W fun e w'' => e = .returned (.tuple #[.int .i64 z, .bool ok]) ∧ Below W.heap.size W w'' by rw [hz, hok]; exact HF.out)
  rw [← hz, ← hok, ← hT] at HC
  rw [← hT]
  clear hT hz hok hO HF hN hB h
  go_enter Tryz.func56, Tryz.ntmps56
  go_wp2
  go_region
  all_goals
    go_wp2_with fail
    refine (HF'.out _).mono ?_
    rintro e w1 ⟨rfl, hb⟩
    have HB1 := Lib.hid (show Below w.heap.size w w1 from (Below.refl _ _).drew.trans hb)
    clear hb
    go_wp2_with fail
    refine (HC.out _).mono ?_
    rintro e w2 ⟨rfl, hb⟩
    have HB2 := Lib.hid (show Below w.heap.size w w2 from HB1.out.trans (hb.mono HB1.out.size))
    clear hb
    go_wp2
    go_ret
    exact ⟨rfl, HB2.out⟩
set_option maxHeartbeats 2000000 in
theorem asked_steps (g : Nat) (n b m : Int) (t : Tx) (nv : Value) (x : Tx) (hx : x = [115, 116, 101, 112, 115]) (hN : Num n) (hB : Bas b) (w : World) (h : Ln w g n b m t nv) :
    Calls Tryz.prog 56 #[.pointer (some ⟨g, 0, none⟩), str x] w fun e w' => e = .returned (str (noT ((RStepsTo n).map Lib.itoa))) ∧ Below w.heap.size w w' := by
  have q0 : (x == [115, 104, 111, 119]) = false := by rw [hx]; rfl
  have q1 : (x == [100, 105, 103, 105, 116, 115]) = false := by rw [hx]; rfl
  have q2 : (x == [115, 117, 109]) = false := by rw [hx]; rfl
  have q3 : (x == [114, 111, 111, 116]) = false := by rw [hx]; rfl
  have q4 : (x == [119, 97, 121, 115]) = false := by rw [hx]; rfl
  have q5 : (x == [114, 117, 110]) = false := by rw [hx]; rfl
  have q6 : (x == [104, 97, 112, 112, 121]) = false := by rw [hx]; rfl
  have q7 : (x == [111, 119, 110]) = false := by rw [hx]; rfl
  have q8 : (x == [115, 116, 101, 112, 115]) = true := by rw [hx]; rfl
  clear hx
  have HH := Lib.hid h
  have c0 := h.c0
  have c1 := h.c1
  have HF := Lib.hid (fun W => spec_StepsTo n W)
  have HC := Lib.hid (fun W => coNumber_any (RStepsTo n) (steps_pos n) W)
  obtain ⟨O, hO⟩ : ∃ O, O = RStepsTo n := ⟨_, rfl⟩
  rw [← hO] at HF HC ⊢
  obtain ⟨z, hz⟩ : ∃ z, z = O.getD 0 := ⟨_, rfl⟩
  obtain ⟨ok, hok⟩ : ∃ ok, ok = O.isSome := ⟨_, rfl⟩
  obtain ⟨T, hT⟩ : ∃ T, T = noT (O.map Lib.itoa) := ⟨_, rfl⟩
  have HF' := Lib.hid (show ∀ W, Calls Tryz.prog 107 #[.int .i64 n] W fun e w'' => e = .returned (.tuple #[.int .i64 z, .bool ok]) ∧ Below W.heap.size W w'' by rw [hz, hok]; exact HF.out)
  rw [← hz, ← hok, ← hT] at HC
  rw [← hT]
  clear hT hz hok hO HF hN hB h
  go_enter Tryz.func56, Tryz.ntmps56
  go_wp2
  go_region
  all_goals
    go_wp2_with fail
    refine (HF'.out _).mono ?_
    rintro e w1 ⟨rfl, hb⟩
    have HB1 := Lib.hid (show Below w.heap.size w w1 from (Below.refl _ _).drew.trans hb)
    clear hb
    go_wp2_with fail
    refine (HC.out _).mono ?_
    rintro e w2 ⟨rfl, hb⟩
    have HB2 := Lib.hid (show Below w.heap.size w w2 from HB1.out.trans (hb.mono HB1.out.size))
    clear hb
    go_wp2
    go_ret
    exact ⟨rfl, HB2.out⟩
set_option maxHeartbeats 2000000 in
theorem asked_number (g : Nat) (n b m : Int) (t : Tx) (nv : Value) (x : Tx) (hx : x = [110, 117, 109, 98, 101, 114]) (hN : Num n) (hB : Bas b) (w : World) (h : Ln w g n b m t nv) :
    Calls Tryz.prog 56 #[.pointer (some ⟨g, 0, none⟩), str x] w fun e w' => e = .returned (str (noT ((RNumberOfWord ⟨t.toArray⟩).map Lib.itoa))) ∧ Below w.heap.size w w' := by
  have q0 : (x == [115, 104, 111, 119]) = false := by rw [hx]; rfl
  have q1 : (x == [100, 105, 103, 105, 116, 115]) = false := by rw [hx]; rfl
  have q2 : (x == [115, 117, 109]) = false := by rw [hx]; rfl
  have q3 : (x == [114, 111, 111, 116]) = false := by rw [hx]; rfl
  have q4 : (x == [119, 97, 121, 115]) = false := by rw [hx]; rfl
  have q5 : (x == [114, 117, 110]) = false := by rw [hx]; rfl
  have q6 : (x == [104, 97, 112, 112, 121]) = false := by rw [hx]; rfl
  have q7 : (x == [111, 119, 110]) = false := by rw [hx]; rfl
  have q8 : (x == [115, 116, 101, 112, 115]) = false := by rw [hx]; rfl
  have q9 : (x == [119, 111, 114, 100]) = false := by rw [hx]; rfl
  clear hx
  have HH := Lib.hid h
  have c0 := h.c0
  have c1 := h.c1
  have HF := Lib.hid (fun W => spec_NumberOfWord ⟨t.toArray⟩ W)
  have HC := Lib.hid (fun W => coNumber_any (RNumberOfWord ⟨t.toArray⟩) (word_pos _) W)
  obtain ⟨O, hO⟩ : ∃ O, O = RNumberOfWord ⟨t.toArray⟩ := ⟨_, rfl⟩
  rw [← hO] at HF HC ⊢
  obtain ⟨z, hz⟩ : ∃ z, z = O.getD 0 := ⟨_, rfl⟩
  obtain ⟨ok, hok⟩ : ∃ ok, ok = O.isSome := ⟨_, rfl⟩
  obtain ⟨T, hT⟩ : ∃ T, T = noT (O.map Lib.itoa) := ⟨_, rfl⟩
  have HF' := Lib.hid (show ∀ W, Calls Tryz.prog 109 #[str t] W fun e w'' => e = .returned (.tuple #[.int .i64 z, .bool ok]) ∧ Below W.heap.size W w'' by rw [hz, hok]; exact HF.out)
  rw [← hz, ← hok, ← hT] at HC
  rw [← hT]
  clear hT hz hok hO HF hN hB h
  have c3 := HH.out.c3
  go_enter Tryz.func56, Tryz.ntmps56
  go_wp2
  go_region
  all_goals
    go_wp2_with fail
    refine (HF'.out _).mono ?_
    rintro e w1 ⟨rfl, hb⟩
    have HB1 := Lib.hid (show Below w.heap.size w w1 from (Below.refl _ _).drew.trans hb)
    clear hb
    go_wp2_with fail
    refine (HC.out _).mono ?_
    rintro e w2 ⟨rfl, hb⟩
    have HB2 := Lib.hid (show Below w.heap.size w w2 from HB1.out.trans (hb.mono HB1.out.size))
    clear hb
    go_wp2
    go_ret
    exact ⟨rfl, HB2.out⟩
set_option maxHeartbeats 2000000 in
theorem asked_run (g : Nat) (n b m : Int) (t : Tx) (k : Int) (p cap : Nat) (x : Tx) (hx : x = [114, 117, 110]) (hN : Num n) (hB : Bas b) (w : World) (h : Ln w g n b m t (.slice (some ⟨p, 0, none⟩) 1 cap)) (hp : w.cell? ⟨p, 0, none⟩ = some (.int .i64 k)) :
    Calls Tryz.prog 56 #[.pointer (some ⟨g, 0, none⟩), str x] w fun e w' => e = .returned (str (noT (if OK3 n b k 4 then some (orD (jnT (LF_PowerRun n b k))) else none))) ∧ Below w.heap.size w w' := by
  have q0 : (x == [115, 104, 111, 119]) = false := by rw [hx]; rfl
  have q1 : (x == [100, 105, 103, 105, 116, 115]) = false := by rw [hx]; rfl
  have q2 : (x == [115, 117, 109]) = false := by rw [hx]; rfl
  have q3 : (x == [114, 111, 111, 116]) = false := by rw [hx]; rfl
  have q4 : (x == [119, 97, 121, 115]) = false := by rw [hx]; rfl
  have q5 : (x == [114, 117, 110]) = true := by rw [hx]; rfl
  clear hx
  have HH := Lib.hid h
  have c0 := h.c0
  have c1 := h.c1
  have c4 := h.c4
  have HF' := Lib.hid (fun W => spec_PowerRun n b k W)
  have HC := Lib.hid (fun v D W hv => coTold_any (OK3 n b k 4) (LF_PowerRun n b k) (run_nice n b k) v D W hv)
  obtain ⟨T, hT⟩ : ∃ T, T = noT (if OK3 n b k 4 then some (orD (jnT (LF_PowerRun n b k))) else none) := ⟨_, rfl⟩
  rw [← hT] at HC ⊢
  obtain ⟨ls, hls⟩ : ∃ ls, ls = LF_PowerRun n b k := ⟨_, rfl⟩
  obtain ⟨ok, hok⟩ : ∃ ok, ok = OK3 n b k 4 := ⟨_, rfl⟩
  rw [← hls, ← hok] at HF' HC
  clear hT hls hok hN hB h
  go_enter Tryz.func56, Tryz.ntmps56
  go_wp2
  go_region
  all_goals
    go_wp2_with fail
    refine (HF'.out _).mono ?_
    rintro e w1 ⟨v1, rfl, hr, hb⟩
    have HB1 := Lib.hid (show Below w.heap.size w w1 from (Below.refl _ _).drew.trans hb)
    have HR1 := Lib.hid hr
    clear hb hr
    go_wp2_with fail
    refine (HC.out _ _ _ HR1.out).mono ?_
    rintro e w2 ⟨rfl, hb⟩
    have HB2 := Lib.hid (show Below w.heap.size w w2 from HB1.out.trans (hb.mono HB1.out.size))
    clear hb
    go_wp2
    go_ret
    exact ⟨rfl, HB2.out⟩
set_option maxHeartbeats 2000000 in
theorem asked_own (g : Nat) (n b m : Int) (t : Tx) (k : Int) (p cap : Nat) (x : Tx) (hx : x = [111, 119, 110]) (hN : Num n) (hB : Bas b) (w : World) (h : Ln w g n b m t (.slice (some ⟨p, 0, none⟩) 1 cap)) (hp : w.cell? ⟨p, 0, none⟩ = some (.int .i64 k)) :
    Calls Tryz.prog 56 #[.pointer (some ⟨g, 0, none⟩), str x] w fun e w' => e = .returned (str (noT (if OKO b k then some (orD (jnT (LF_OwnPowers b k))) else none))) ∧ Below w.heap.size w w' := by
  have q0 : (x == [115, 104, 111, 119]) = false := by rw [hx]; rfl
  have q1 : (x == [100, 105, 103, 105, 116, 115]) = false := by rw [hx]; rfl
  have q2 : (x == [115, 117, 109]) = false := by rw [hx]; rfl
  have q3 : (x == [114, 111, 111, 116]) = false := by rw [hx]; rfl
  have q4 : (x == [119, 97, 121, 115]) = false := by rw [hx]; rfl
  have q5 : (x == [114, 117, 110]) = false := by rw [hx]; rfl
  have q6 : (x == [104, 97, 112, 112, 121]) = false := by rw [hx]; rfl
  have q7 : (x == [111, 119, 110]) = true := by rw [hx]; rfl
  clear hx
  have HH := Lib.hid h
  have c0 := h.c0
  have c1 := h.c1
  have c4 := h.c4
  have HF' := Lib.hid (fun W => spec_OwnPowers b k W)
  have HC := Lib.hid (fun v D W hv => coTold_any (OKO b k) (LF_OwnPowers b k) (own_nice b k) v D W hv)
  obtain ⟨T, hT⟩ : ∃ T, T = noT (if OKO b k then some (orD (jnT (LF_OwnPowers b k))) else none) := ⟨_, rfl⟩
  rw [← hT] at HC ⊢
  obtain ⟨ls, hls⟩ : ∃ ls, ls = LF_OwnPowers b k := ⟨_, rfl⟩
  obtain ⟨ok, hok⟩ : ∃ ok, ok = OKO b k := ⟨_, rfl⟩
  rw [← hls, ← hok] at HF' HC
  clear hT hls hok hN hB h
  go_enter Tryz.func56, Tryz.ntmps56
  go_wp2
  go_region
  all_goals
    go_wp2_with fail
    refine (HF'.out _).mono ?_
    rintro e w1 ⟨v1, rfl, hr, hb⟩
    have HB1 := Lib.hid (show Below w.heap.size w w1 from (Below.refl _ _).drew.trans hb)
    have HR1 := Lib.hid hr
    clear hb hr
    go_wp2_with fail
    refine (HC.out _ _ _ HR1.out).mono ?_
    rintro e w2 ⟨rfl, hb⟩
    have HB2 := Lib.hid (show Below w.heap.size w w2 from HB1.out.trans (hb.mono HB1.out.size))
    clear hb
    go_wp2
    go_ret
    exact ⟨rfl, HB2.out⟩
set_option maxHeartbeats 2000000 in
theorem asked_happy (g : Nat) (n b m : Int) (t : Tx) (nv : Value) (x : Tx) (hx : x = [104, 97, 112, 112, 121]) (hN : Num n) (hB : Bas b) (w : World) (h : Ln w g n b m t nv) :
    Calls Tryz.prog 56 #[.pointer (some ⟨g, 0, none⟩), str x] w fun e w' => e = .returned (str (if hap b.toNat n.toNat then [121, 101, 115] else [115, 97, 100])) ∧ Below w.heap.size w w' := by
  have q0 : (x == [115, 104, 111, 119]) = false := by rw [hx]; rfl
  have q1 : (x == [100, 105, 103, 105, 116, 115]) = false := by rw [hx]; rfl
  have q2 : (x == [115, 117, 109]) = false := by rw [hx]; rfl
  have q3 : (x == [114, 111, 111, 116]) = false := by rw [hx]; rfl
  have q4 : (x == [119, 97, 121, 115]) = false := by rw [hx]; rfl
  have q5 : (x == [114, 117, 110]) = false := by rw [hx]; rfl
  have q6 : (x == [104, 97, 112, 112, 121]) = true := by rw [hx]; rfl
  clear hx
  have HH := Lib.hid h
  have c0 := h.c0
  have c1 := h.c1
  have HF' := Lib.hid (show ∀ W, Calls Tryz.prog 105 #[.int .i64 n, .int .i64 b] W fun e w' => e = .returned (.bool (hap b.toNat n.toNat)) ∧ Below W.heap.size W w' from fun W => by
    have := pwHappy_any n.toNat b.toNat W (by have := hN.2; omega) (by have := hB.1; omega) (by have := hB.2; omega)
    rwa [Int.toNat_of_nonneg hN.1, Int.toNat_of_nonneg (by have := hB.1; omega)] at this)
  obtain ⟨q, hq⟩ : ∃ q, q = hap b.toNat n.toNat := ⟨_, rfl⟩
  rw [← hq] at HF' ⊢
  clear hq hN hB h
  go_enter Tryz.func56, Tryz.ntmps56
  go_wp2
  go_region
  all_goals
    go_wp2_with fail
    refine (HF'.out _).mono ?_
    rintro e w1 ⟨rfl, hb⟩
    have HB1 := Lib.hid (show Below w.heap.size w w1 from (Below.refl _ _).drew.trans hb)
    clear hb
    cases q
    · go_wp2
      go_ret
      exact ⟨rfl, HB1.out⟩
    · go_wp2
      go_ret
      exact ⟨rfl, HB1.out⟩
set_option maxHeartbeats 2000000 in
theorem asked_word (g : Nat) (n b m : Int) (t : Tx) (k : Int) (p cap : Nat) (x : Tx) (hx : x = [119, 111, 114, 100]) (hN : Num n) (hB : Bas b) (w : World) (h : Ln w g n b m t (.slice (some ⟨p, 0, none⟩) 1 cap)) (hp : w.cell? ⟨p, 0, none⟩ = some (.int .i64 k)) :
    Calls Tryz.prog 56 #[.pointer (some ⟨g, 0, none⟩), str x] w fun e w' => e = .returned (str (noT ((RWd n k).map orD))) ∧ Below w.heap.size w w' := by
  have q0 : (x == [115, 104, 111, 119]) = false := by rw [hx]; rfl
  have q1 : (x == [100, 105, 103, 105, 116, 115]) = false := by rw [hx]; rfl
  have q2 : (x == [115, 117, 109]) = false := by rw [hx]; rfl
  have q3 : (x == [114, 111, 111, 116]) = false := by rw [hx]; rfl
  have q4 : (x == [119, 97, 121, 115]) = false := by rw [hx]; rfl
  have q5 : (x == [114, 117, 110]) = false := by rw [hx]; rfl
  have q6 : (x == [104, 97, 112, 112, 121]) = false := by rw [hx]; rfl
  have q7 : (x == [111, 119, 110]) = false := by rw [hx]; rfl
  have q8 : (x == [115, 116, 101, 112, 115]) = false := by rw [hx]; rfl
  have q9 : (x == [119, 111, 114, 100]) = true := by rw [hx]; rfl
  clear hx
  have HH := Lib.hid h
  have c0 := h.c0
  have c1 := h.c1
  have c4 := h.c4
  have HF := Lib.hid (fun W => spec_ParityWord n k W)
  obtain ⟨O, hO⟩ : ∃ O, O = RWd n k := ⟨_, rfl⟩
  rw [← hO] at HF ⊢
  clear hO hN hB h
  cases O with
  | none =>
    have HF' := Lib.hid (show ∀ W, Calls Tryz.prog 108 #[.int .i64 n, .int .i64 k] W fun e w' => e = .returned (.tuple #[str [], .bool false]) ∧ Below W.heap.size W w' from HF.out)
    have HT := Lib.hid (show noT (Option.map orD none) = [110, 111] from rfl)
    rw [HT.out]
    clear HF
    go_enter Tryz.func56, Tryz.ntmps56
    go_wp2
    go_region
    all_goals
      go_wp2_with fail
      refine (HF'.out _).mono ?_
      rintro e w1 ⟨rfl, hb⟩
      have HB1 := Lib.hid (show Below w.heap.size w w1 from (Below.refl _ _).drew.trans hb)
      clear hb
      go_wp2
      go_ret
      exact ⟨rfl, HB1.out⟩
  | some q =>
    have HF' := Lib.hid (show ∀ W, Calls Tryz.prog 108 #[.int .i64 n, .int .i64 k] W fun e w' => e = .returned (.tuple #[str q, .bool true]) ∧ Below W.heap.size W w' from HF.out)
    clear HF
    cases q with
    | nil =>
      have HT := Lib.hid (show noT (Option.map orD (some [])) = [45] from rfl)
      rw [HT.out]
      go_enter Tryz.func56, Tryz.ntmps56
      go_wp2
      go_region
      all_goals
        go_wp2_with fail
        refine (HF'.out _).mono ?_
        rintro e w1 ⟨rfl, hb⟩
        have HB1 := Lib.hid (show Below w.heap.size w w1 from (Below.refl _ _).drew.trans hb)
        clear hb
        go_wp2
        go_ret
        exact ⟨rfl, HB1.out⟩
    | cons y0 q' =>
      obtain ⟨q, hq⟩ : ∃ q, q = y0 :: q' := ⟨_, rfl⟩
      have he : List.isEmpty q = false := by rw [hq]; rfl
      have HT := Lib.hid (show noT (Option.map orD (some (y0 :: q'))) = q from hq.symm)
      rw [HT.out]
      rw [← hq] at HF'
      clear hq
      go_enter Tryz.func56, Tryz.ntmps56
      go_wp2
      go_region
      all_goals
        go_wp2_with fail
        refine (HF'.out _).mono ?_
        rintro e w1 ⟨rfl, hb⟩
        have HB1 := Lib.hid (show Below w.heap.size w w1 from (Below.refl _ _).drew.trans hb)
        clear hb
        go_wp2
        go_ret
        exact ⟨rfl, HB1.out⟩

end Go.Proofs.YtlbjeiaihenjkaaGreatDoor
