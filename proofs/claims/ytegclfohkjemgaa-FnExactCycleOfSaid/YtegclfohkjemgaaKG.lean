/-
  The program's cycle of a word as lists.
-/
import Derived.Test.YtegclfohkjemgaaKF
namespace Go.Proofs.Ytegclfohkjemgaa
open Go.RowKit
set_option linter.unusedVariables false
set_option linter.unusedSimpArgs false
set_option maxRecDepth 100000

theorem cyF_jn (F : Nat → List Int) (T n q : Nat) (hq : q < n) : rls (jn (n - q) (fun j => F (T + q + j)) (fun j => F (T + j))) (n - q + q) = rls (cyF F T n q) n := by
  rw [show n - q + q = n by omega]
  refine rls_congr fun j hj => ?_
  unfold jn cyF
  by_cases h : j < n - q
  · rw [if_pos h, Nat.mod_eq_of_lt (by omega)]
    show F (T + q + j) = F (T + (q + j))
    rw [Nat.add_assoc]
  · rw [if_neg h]
    have e : (q + j) % n = q + j - n := by rw [Nat.mod_eq_sub_mod (by omega), Nat.mod_eq_of_lt (by omega)]
    show F (T + (j - (n - q))) = _
    rw [e, show j - (n - q) = q + j - n by omega]

set_option maxHeartbeats 1000000 in
theorem cycleFrom_any (V M v : Nat) (b : Int) (w : World) (hM : b = ((M + 1 : Nat) : Int)) (hM1 : 1 ≤ M) (hM15 : M ≤ 15) (hV : V ≤ 8) (hV1 : 1 ≤ V) (hv : (v : Int) < b ^ V) :
    Calls Try.prog 72 #[shp (V : Int) b, .agg (dw (wd b V (v : Int)))] w fun e w' => ∃ u vs, e = .returned u ∧ LLi w' w.heap.size u vs (cyL (rw' b V v) (tl (sN b V) RM v) (rl (sN b V) RM v - tl (sN b V) RM v) b) ∧ Below w.heap.size w w' := by
  have hb2 : 2 ≤ b := by omega
  have hb16 : b ≤ 16 := by omega
  have HEX := Lib.hid (bk_ex hM hM1 hM15 hV v)
  obtain ⟨s1, s2, s3, s4, s5, s6⟩ := rl_spec HEX.out
  have HRUN := Lib.hid (fun w' => run_any V M v b w' hM hM1 hM15 hV hV1 hv)
  obtain ⟨L, hL⟩ : ∃ L, L = rl (sN b V) RM v := ⟨_, rfl⟩
  obtain ⟨T, hT⟩ : ∃ T, T = tl (sN b V) RM v := ⟨_, rfl⟩
  have hrm : L ≤ 3877 := by rw [hL]; unfold RM at s2; exact s2
  have hTL : T < L := by rw [hL, hT]; exact s3
  obtain ⟨F, hF⟩ : ∃ F : Nat → List Int, F = rw' b V v := ⟨_, rfl⟩
  have HFL := Lib.hid (show ∀ j, (F j).length = V by rw [hF]; exact rw_len b V v)
  have HFA := Lib.hid (show ∀ j, ∀ x ∈ F j, 0 ≤ x ∧ x ≤ b - 1 by rw [hF]; exact rw_all hb2 V v)
  have HF8 := Lib.hid (show ∀ j, (F j).length ≤ 8 from fun j => by rw [HFL.out]; exact hV)
  have hx8 : (wd b V (v : Int)).length ≤ 8 := by rw [wd_len]; exact hV
  obtain ⟨X, hX⟩ : ∃ X, X = wd b V (v : Int) := ⟨_, rfl⟩
  rw [← hL, ← hT, ← hF, ← hX] at HRUN
  rw [← hL, ← hT, ← hF, ← hX]
  rw [← hX] at hx8
  clear s1 s2 s3 s4 s5 s6 hL hT hF hX hM HEX
  obtain ⟨n, hn⟩ : ∃ n, n = L - T := ⟨_, rfl⟩
  rw [← hn] at HRUN
  rw [← hn]
  have hn0 : 0 < n := by omega
  have hTn : T + n = L := by omega
  clear hn
  have hsz := dw_size hx8
  have HI := Lib.hid (arr_dw X hx8)
  have HB1 := Lib.hid (show Below w.heap.size w ((w.alloc (.cells #[.int .i64 (V : Int), .int .i64 b] 57)).alloc (.cells (dw X) 63)) from (alloc_below w _).alloc (by simp) _)
  have HT1 := Lib.hid (show ((w.alloc (.cells #[.int .i64 (V : Int), .int .i64 b] 57)).alloc (.cells (dw X) 63)).heap[w.heap.size + 1]? = some (.cells (dw X) 63 (0, 0)) from heap_alloc2_new _ _ _)
  have C0 := Lib.hid (show ((w.alloc (.cells #[.int .i64 (V : Int), .int .i64 b] 57)).alloc (.cells (dw X) 63)).cell? ⟨w.heap.size, 0, none⟩ = some (.int .i64 (V : Int)) by simp [go_sem])
  have C1 := Lib.hid (show ((w.alloc (.cells #[.int .i64 (V : Int), .int .i64 b] 57)).alloc (.cells (dw X) 63)).cell? ⟨w.heap.size, 1, none⟩ = some (.int .i64 b) by simp [go_sem])
  have HML := Lib.hid (miF_le (cvl F T b))
  have HMS := Lib.hid (miF_succ (cvl F T b))
  have HVAL := Lib.hid (fun (k : Nat) (w' : World) => value_any (F (T + k)) b w' hb2 hb16 (HFA.out _) (HF8.out _))
  have HCD := Lib.hid (fun (k : Nat) => dw_lit (HF8.out k))
  have HCC := Lib.hid (fun (g cap q gs : Nat) (w' : World) (hq : q < n) (hs0 : w'.cell? ⟨gs, 0, none⟩ = some (.slice (some ⟨g, T * 8 + q * 8, none⟩) (n - q) (cap - q))) (hs1 : w'.cell? ⟨gs, 1, none⟩ = some (.slice (some ⟨g, T * 8, none⟩) q cap)) (h : WC w' g 0 L F) =>
    concatW_any gs (n - q) q (cap - q) cap _ _ (fun j => F (T + q + j)) (fun j => F (T + j)) w' hs0 hs1 (WC.srcW (by have := WC.part (t := T + q) (m := n - q) h (by omega); rwa [show (T + q) * 8 = T * 8 + q * 8 by omega] at this)) (WC.srcW (h.part (by omega))) (fun j => HF8.out _) (fun j => HF8.out _) (by omega) (by omega))
  have HLS := Lib.hid (fun (q : Nat) (u : Value) (w' : World) (hq : q < n) (h : SrcW w' u (n - q + q) (jn (n - q) (fun j => F (T + q + j)) (fun j => F (T + j)))) => lists_any u (n - q + q) V (jn (n - q) (fun j => F (T + q + j)) (fun j => F (T + j))) b w' h (fun j => by unfold jn; split <;> exact HFL.out _) hV (by omega))
  have HJ8 := Lib.hid (show ∀ q j, (jn (n - q) (fun j => F (T + q + j)) (fun j => F (T + j)) j).length ≤ 8 from fun q j => by unfold jn; split <;> exact HF8.out _)
  have hfd : ∀ (a1 a2 : Option Addr) (l1 l2 c1 c2 : Nat) (w' : World), (Instr.field 73 (.agg #[.slice a1 l1 c1, .slice a2 l2 c2]) 1).run Try.prog w' = .ok (.slice a2 l2 c2) w' := fun _ _ _ _ _ _ _ => by kernel_rfl
  go_enter Try.func72, Try.ntmps72
  go_wp2_with (first
    | (refine wpList_load_row rfl 63 (.tmp 3) rfl (w.heap.size + 1) rfl _ (dw X) _ _ HT1.out arr8 rfl HI.out ?_)
    | (go_at_call 70; refine (HRUN.out _).mono ?_; rintro e w2 ⟨g, cap, rfl, hw2, hb2'⟩; have U2 := Lib.hid hw2; have B2 := Lib.hid (Below.step HB1.out HB1.out.size hb2'); have D0 := Lib.hid (Below.keeps_cell hb2' C0.out); have D1 := Lib.hid (Below.keeps_cell hb2' C1.out); clear hw2 hb2'))
  have hcapn : L ≤ cap := (U2.out.wc HF8.out).2.2.2.1
  have hcapm := (U2.out.wc HF8.out).2.2.2.2
  unfold maxLen at hcapm
  obtain ⟨c', hc'⟩ : ∃ c', c' = cap - T := ⟨_, rfl⟩
  have hcn : n ≤ c' := by omega
  have hcm : c' ≤ 9223372036854775807 := by omega
  rw [← hc']
  have HW2 := Lib.hid (U2.out.wc HF8.out).2.2.1
  clear hcapn hcapm hc' C0 C1 HT1 HI HB1 U2
  clear hfd
  go_loopw [6, 15] (fun at' i wr => ∃ k q : Nat, k ≤ n ∧ q < n ∧ i = .int .i64 (k : Int) ∧ at' = .int .i64 (q : Int) ∧ miF (cvl F T b) k = q ∧ Below w2.heap.size w2 wr) (fun _ i _ => n - (intOf i).toNat)
  case atStart => exact ⟨0, 0, Nat.zero_le _, hn0, rfl, rfl, rfl, Below.refl _ _⟩
  case round =>
    obtain ⟨k, q, hk, hqn, rfl, rfl, hq, hbl⟩ := hrel
    have HQ := Lib.hid hq
    have HB := Lib.hid hbl
    have HWR := Lib.hid (HW2.out.keep hbl)
    have E0 := Lib.hid (Below.keeps_cell hbl D0.out)
    have E1 := Lib.hid (Below.keeps_cell hbl D1.out)
    clear hq hbl
    by_cases hlt : k < n
    · have HS := Lib.hid (HMS.out k)
      rw [HQ.out] at HS
      obtain ⟨x, hx⟩ : ∃ x, x = cvl F T b k := ⟨_, rfl⟩
      obtain ⟨y, hy⟩ : ∃ y, y = cvl F T b q := ⟨_, rfl⟩
      have HC1 := Lib.hid (HVAL.out k)
      have HC2 := Lib.hid (HVAL.out q)
      rw [← hx, ← hy] at HS
      rw [show vl b (F (T + k)) = x by rw [hx]; rfl, HFL.out, HCD.out] at HC1
      rw [show vl b (F (T + q)) = y by rw [hy]; rfl, HFL.out, HCD.out] at HC2
      clear hx hy
      have k0 : wr.cell? ⟨g, T * 8 + k * 8, none⟩ = some (.int .i64 ((F (T + k)).getD 0 0)) := by have := HWR.out (T + k) (by omega) 0 (by omega); rwa [show 0 + (T + k) * 8 + 0 = T * 8 + k * 8 by omega] at this
      have k1 : wr.cell? ⟨g, T * 8 + k * 8 + 1, none⟩ = some (.int .i64 ((F (T + k)).getD 1 0)) := by have := HWR.out (T + k) (by omega) 1 (by omega); rwa [show 0 + (T + k) * 8 + 1 = T * 8 + k * 8 + 1 by omega] at this
      have k2 : wr.cell? ⟨g, T * 8 + k * 8 + 2, none⟩ = some (.int .i64 ((F (T + k)).getD 2 0)) := by have := HWR.out (T + k) (by omega) 2 (by omega); rwa [show 0 + (T + k) * 8 + 2 = T * 8 + k * 8 + 2 by omega] at this
      have k3 : wr.cell? ⟨g, T * 8 + k * 8 + 3, none⟩ = some (.int .i64 ((F (T + k)).getD 3 0)) := by have := HWR.out (T + k) (by omega) 3 (by omega); rwa [show 0 + (T + k) * 8 + 3 = T * 8 + k * 8 + 3 by omega] at this
      have k4 : wr.cell? ⟨g, T * 8 + k * 8 + 4, none⟩ = some (.int .i64 ((F (T + k)).getD 4 0)) := by have := HWR.out (T + k) (by omega) 4 (by omega); rwa [show 0 + (T + k) * 8 + 4 = T * 8 + k * 8 + 4 by omega] at this
      have k5 : wr.cell? ⟨g, T * 8 + k * 8 + 5, none⟩ = some (.int .i64 ((F (T + k)).getD 5 0)) := by have := HWR.out (T + k) (by omega) 5 (by omega); rwa [show 0 + (T + k) * 8 + 5 = T * 8 + k * 8 + 5 by omega] at this
      have k6 : wr.cell? ⟨g, T * 8 + k * 8 + 6, none⟩ = some (.int .i64 ((F (T + k)).getD 6 0)) := by have := HWR.out (T + k) (by omega) 6 (by omega); rwa [show 0 + (T + k) * 8 + 6 = T * 8 + k * 8 + 6 by omega] at this
      have k7 : wr.cell? ⟨g, T * 8 + k * 8 + 7, none⟩ = some (.int .i64 ((F (T + k)).getD 7 0)) := by have := HWR.out (T + k) (by omega) 7 (by omega); rwa [show 0 + (T + k) * 8 + 7 = T * 8 + k * 8 + 7 by omega] at this
      have z0 : wr.cell? ⟨g, T * 8 + q * 8, none⟩ = some (.int .i64 ((F (T + q)).getD 0 0)) := by have := HWR.out (T + q) (by omega) 0 (by omega); rwa [show 0 + (T + q) * 8 + 0 = T * 8 + q * 8 by omega] at this
      have z1 : wr.cell? ⟨g, T * 8 + q * 8 + 1, none⟩ = some (.int .i64 ((F (T + q)).getD 1 0)) := by have := HWR.out (T + q) (by omega) 1 (by omega); rwa [show 0 + (T + q) * 8 + 1 = T * 8 + q * 8 + 1 by omega] at this
      have z2 : wr.cell? ⟨g, T * 8 + q * 8 + 2, none⟩ = some (.int .i64 ((F (T + q)).getD 2 0)) := by have := HWR.out (T + q) (by omega) 2 (by omega); rwa [show 0 + (T + q) * 8 + 2 = T * 8 + q * 8 + 2 by omega] at this
      have z3 : wr.cell? ⟨g, T * 8 + q * 8 + 3, none⟩ = some (.int .i64 ((F (T + q)).getD 3 0)) := by have := HWR.out (T + q) (by omega) 3 (by omega); rwa [show 0 + (T + q) * 8 + 3 = T * 8 + q * 8 + 3 by omega] at this
      have z4 : wr.cell? ⟨g, T * 8 + q * 8 + 4, none⟩ = some (.int .i64 ((F (T + q)).getD 4 0)) := by have := HWR.out (T + q) (by omega) 4 (by omega); rwa [show 0 + (T + q) * 8 + 4 = T * 8 + q * 8 + 4 by omega] at this
      have z5 : wr.cell? ⟨g, T * 8 + q * 8 + 5, none⟩ = some (.int .i64 ((F (T + q)).getD 5 0)) := by have := HWR.out (T + q) (by omega) 5 (by omega); rwa [show 0 + (T + q) * 8 + 5 = T * 8 + q * 8 + 5 by omega] at this
      have z6 : wr.cell? ⟨g, T * 8 + q * 8 + 6, none⟩ = some (.int .i64 ((F (T + q)).getD 6 0)) := by have := HWR.out (T + q) (by omega) 6 (by omega); rwa [show 0 + (T + q) * 8 + 6 = T * 8 + q * 8 + 6 by omega] at this
      have z7 : wr.cell? ⟨g, T * 8 + q * 8 + 7, none⟩ = some (.int .i64 ((F (T + q)).getD 7 0)) := by have := HWR.out (T + q) (by omega) 7 (by omega); rwa [show 0 + (T + q) * 8 + 7 = T * 8 + q * 8 + 7 by omega] at this
      obtain ⟨d0, hd0⟩ : ∃ d, d = (F (T + k)).getD 0 0 := ⟨_, rfl⟩
      obtain ⟨d1, hd1⟩ : ∃ d, d = (F (T + k)).getD 1 0 := ⟨_, rfl⟩
      obtain ⟨d2, hd2⟩ : ∃ d, d = (F (T + k)).getD 2 0 := ⟨_, rfl⟩
      obtain ⟨d3, hd3⟩ : ∃ d, d = (F (T + k)).getD 3 0 := ⟨_, rfl⟩
      obtain ⟨d4, hd4⟩ : ∃ d, d = (F (T + k)).getD 4 0 := ⟨_, rfl⟩
      obtain ⟨d5, hd5⟩ : ∃ d, d = (F (T + k)).getD 5 0 := ⟨_, rfl⟩
      obtain ⟨d6, hd6⟩ : ∃ d, d = (F (T + k)).getD 6 0 := ⟨_, rfl⟩
      obtain ⟨d7, hd7⟩ : ∃ d, d = (F (T + k)).getD 7 0 := ⟨_, rfl⟩
      obtain ⟨f0, hf0⟩ : ∃ d, d = (F (T + q)).getD 0 0 := ⟨_, rfl⟩
      obtain ⟨f1, hf1⟩ : ∃ d, d = (F (T + q)).getD 1 0 := ⟨_, rfl⟩
      obtain ⟨f2, hf2⟩ : ∃ d, d = (F (T + q)).getD 2 0 := ⟨_, rfl⟩
      obtain ⟨f3, hf3⟩ : ∃ d, d = (F (T + q)).getD 3 0 := ⟨_, rfl⟩
      obtain ⟨f4, hf4⟩ : ∃ d, d = (F (T + q)).getD 4 0 := ⟨_, rfl⟩
      obtain ⟨f5, hf5⟩ : ∃ d, d = (F (T + q)).getD 5 0 := ⟨_, rfl⟩
      obtain ⟨f6, hf6⟩ : ∃ d, d = (F (T + q)).getD 6 0 := ⟨_, rfl⟩
      obtain ⟨f7, hf7⟩ : ∃ d, d = (F (T + q)).getD 7 0 := ⟨_, rfl⟩
      rw [← hd0, ← hd1, ← hd2, ← hd3, ← hd4, ← hd5, ← hd6, ← hd7] at HC1
      rw [← hf0, ← hf1, ← hf2, ← hf3, ← hf4, ← hf5, ← hf6, ← hf7] at HC2
      rw [← hd0] at k0
      rw [← hd1] at k1
      rw [← hd2] at k2
      rw [← hd3] at k3
      rw [← hd4] at k4
      rw [← hd5] at k5
      rw [← hd6] at k6
      rw [← hd7] at k7
      rw [← hf0] at z0
      rw [← hf1] at z1
      rw [← hf2] at z2
      rw [← hf3] at z3
      rw [← hf4] at z4
      rw [← hf5] at z5
      rw [← hf6] at z6
      rw [← hf7] at z7
      clear hd0 hf0 hd1 hf1 hd2 hf2 hd3 hf3 hd4 hf4 hd5 hf5 hd6 hf6 hd7 hf7
      obtain ⟨w3, hw3⟩ : ∃ w3, w3 = wr.alloc (.cells #[.int .i64 d0, .int .i64 d1, .int .i64 d2, .int .i64 d3, .int .i64 d4, .int .i64 d5, .int .i64 d6, .int .i64 d7] 63) := ⟨_, rfl⟩
      have HA3 := Lib.hid (show Below wr.heap.size wr w3 by rw [hw3]; exact alloc_below wr _)
      have HN3 := Lib.hid (show w3.heap[wr.heap.size]? = some (.cells #[.int .i64 d0, .int .i64 d1, .int .i64 d2, .int .i64 d3, .int .i64 d4, .int .i64 d5, .int .i64 d6, .int .i64 d7] 63 (0, 0)) by rw [hw3]; exact heap_alloc_new wr _)
      have HK := Lib.hid (show ∀ w' : World, Below w3.drew.heap.size w3.drew w' → w'.cell? ⟨w.heap.size, 0, none⟩ = some (.int .i64 (V : Int)) ∧ w'.cell? ⟨w.heap.size, 1, none⟩ = some (.int .i64 b) ∧ w'.cell? ⟨wr.heap.size, 0, none⟩ = some (.int .i64 d0) ∧ w'.cell? ⟨wr.heap.size, 1, none⟩ = some (.int .i64 d1) ∧ w'.cell? ⟨wr.heap.size, 2, none⟩ = some (.int .i64 d2) ∧ w'.cell? ⟨wr.heap.size, 3, none⟩ = some (.int .i64 d3) ∧ w'.cell? ⟨wr.heap.size, 4, none⟩ = some (.int .i64 d4) ∧ w'.cell? ⟨wr.heap.size, 5, none⟩ = some (.int .i64 d5) ∧ w'.cell? ⟨wr.heap.size, 6, none⟩ = some (.int .i64 d6) ∧ w'.cell? ⟨wr.heap.size, 7, none⟩ = some (.int .i64 d7) ∧ w'.cell? ⟨g, T * 8 + q * 8, none⟩ = some (.int .i64 f0) ∧ w'.cell? ⟨g, T * 8 + q * 8 + 1, none⟩ = some (.int .i64 f1) ∧ w'.cell? ⟨g, T * 8 + q * 8 + 2, none⟩ = some (.int .i64 f2) ∧ w'.cell? ⟨g, T * 8 + q * 8 + 3, none⟩ = some (.int .i64 f3) ∧ w'.cell? ⟨g, T * 8 + q * 8 + 4, none⟩ = some (.int .i64 f4) ∧ w'.cell? ⟨g, T * 8 + q * 8 + 5, none⟩ = some (.int .i64 f5) ∧ w'.cell? ⟨g, T * 8 + q * 8 + 6, none⟩ = some (.int .i64 f6) ∧ w'.cell? ⟨g, T * 8 + q * 8 + 7, none⟩ = some (.int .i64 f7) from fun w' hb =>
        ⟨Below.keeps_cell hb (Below.keeps_cell HA3.out E0.out : w3.drew.cell? _ = _), Below.keeps_cell hb (Below.keeps_cell HA3.out E1.out : w3.drew.cell? _ = _), Below.keeps_cell hb (cell_of_row w3 _ 0 _ _ _ HN3.out : w3.drew.cell? _ = _), Below.keeps_cell hb (cell_of_row w3 _ 1 _ _ _ HN3.out : w3.drew.cell? _ = _), Below.keeps_cell hb (cell_of_row w3 _ 2 _ _ _ HN3.out : w3.drew.cell? _ = _), Below.keeps_cell hb (cell_of_row w3 _ 3 _ _ _ HN3.out : w3.drew.cell? _ = _), Below.keeps_cell hb (cell_of_row w3 _ 4 _ _ _ HN3.out : w3.drew.cell? _ = _), Below.keeps_cell hb (cell_of_row w3 _ 5 _ _ _ HN3.out : w3.drew.cell? _ = _), Below.keeps_cell hb (cell_of_row w3 _ 6 _ _ _ HN3.out : w3.drew.cell? _ = _), Below.keeps_cell hb (cell_of_row w3 _ 7 _ _ _ HN3.out : w3.drew.cell? _ = _), Below.keeps_cell hb (Below.keeps_cell HA3.out z0 : w3.drew.cell? _ = _), Below.keeps_cell hb (Below.keeps_cell HA3.out z1 : w3.drew.cell? _ = _), Below.keeps_cell hb (Below.keeps_cell HA3.out z2 : w3.drew.cell? _ = _), Below.keeps_cell hb (Below.keeps_cell HA3.out z3 : w3.drew.cell? _ = _), Below.keeps_cell hb (Below.keeps_cell HA3.out z4 : w3.drew.cell? _ = _), Below.keeps_cell hb (Below.keeps_cell HA3.out z5 : w3.drew.cell? _ = _), Below.keeps_cell hb (Below.keeps_cell HA3.out z6 : w3.drew.cell? _ = _), Below.keeps_cell hb (Below.keeps_cell HA3.out z7 : w3.drew.cell? _ = _)⟩)
      have HB3 := Lib.hid (show Below w2.heap.size w2 w3.drew from (Below.step HB.out HB.out.size HA3.out).drew)
      have hk0 : (0 : Int) ≤ (q : Int) := by omega
      have hqi : (q : Int) < (n : Int) := by omega
      have hwq : IntKind.i64.wrap (q : Int) = (q : Int) := IntWalk.i64_in _ (by omega)
      clear z0 z1 z2 z3 z4 z5 z6 z7
      by_cases hxy : x < y
      · have HE := Lib.hid (show miF (cvl F T b) (k + 1) = k by rw [HS.out, if_pos hxy])
        go_wp2
        rw [← hw3]
        clear hw3 k0 k1 k2 k3 k4 k5 k6 k7
        go_region_held3 (fun w' => w'.cell? ⟨w.heap.size, 0, none⟩ = some (.int .i64 (V : Int)) ∧ w'.cell? ⟨w.heap.size, 1, none⟩ = some (.int .i64 b) ∧ w'.cell? ⟨wr.heap.size, 0, none⟩ = some (.int .i64 d0) ∧ w'.cell? ⟨wr.heap.size, 1, none⟩ = some (.int .i64 d1) ∧ w'.cell? ⟨wr.heap.size, 2, none⟩ = some (.int .i64 d2) ∧ w'.cell? ⟨wr.heap.size, 3, none⟩ = some (.int .i64 d3) ∧ w'.cell? ⟨wr.heap.size, 4, none⟩ = some (.int .i64 d4) ∧ w'.cell? ⟨wr.heap.size, 5, none⟩ = some (.int .i64 d5) ∧ w'.cell? ⟨wr.heap.size, 6, none⟩ = some (.int .i64 d6) ∧ w'.cell? ⟨wr.heap.size, 7, none⟩ = some (.int .i64 d7) ∧ w'.cell? ⟨g, T * 8 + q * 8, none⟩ = some (.int .i64 f0) ∧ w'.cell? ⟨g, T * 8 + q * 8 + 1, none⟩ = some (.int .i64 f1) ∧ w'.cell? ⟨g, T * 8 + q * 8 + 2, none⟩ = some (.int .i64 f2) ∧ w'.cell? ⟨g, T * 8 + q * 8 + 3, none⟩ = some (.int .i64 f3) ∧ w'.cell? ⟨g, T * 8 + q * 8 + 4, none⟩ = some (.int .i64 f4) ∧ w'.cell? ⟨g, T * 8 + q * 8 + 5, none⟩ = some (.int .i64 f5) ∧ w'.cell? ⟨g, T * 8 + q * 8 + 6, none⟩ = some (.int .i64 f6) ∧ w'.cell? ⟨g, T * 8 + q * 8 + 7, none⟩ = some (.int .i64 f7)) (first | exact HK.out _ (Below.refl _ _) | exact HK.out _ BB2.out | exact HK.out _ BB1.out) (first
          | (go_at_call 98; (first | (with_reducible refine (HC1.out _).mono ?_) | (with_reducible refine (HC2.out _).mono ?_)); rintro e w4 ⟨rfl, hbx⟩; (first | (have BB2 := Lib.hid (Below.step BB1.out BB1.out.size hbx)) | (have BB1 := Lib.hid hbx)); clear hbx))
        all_goals
          clear hwq
          go_wp2
          go_roundw
          case rel => exact ⟨k + 1, k, by omega, by omega, by go_num, rfl, HE.out, Below.step HB3.out HB3.out.size BB2.out⟩
          case measure => simp [intOf]; omega
      · have HE := Lib.hid (show miF (cvl F T b) (k + 1) = q by rw [HS.out, if_neg hxy])
        go_wp2
        rw [← hw3]
        clear hw3 k0 k1 k2 k3 k4 k5 k6 k7
        go_region_held3 (fun w' => w'.cell? ⟨w.heap.size, 0, none⟩ = some (.int .i64 (V : Int)) ∧ w'.cell? ⟨w.heap.size, 1, none⟩ = some (.int .i64 b) ∧ w'.cell? ⟨wr.heap.size, 0, none⟩ = some (.int .i64 d0) ∧ w'.cell? ⟨wr.heap.size, 1, none⟩ = some (.int .i64 d1) ∧ w'.cell? ⟨wr.heap.size, 2, none⟩ = some (.int .i64 d2) ∧ w'.cell? ⟨wr.heap.size, 3, none⟩ = some (.int .i64 d3) ∧ w'.cell? ⟨wr.heap.size, 4, none⟩ = some (.int .i64 d4) ∧ w'.cell? ⟨wr.heap.size, 5, none⟩ = some (.int .i64 d5) ∧ w'.cell? ⟨wr.heap.size, 6, none⟩ = some (.int .i64 d6) ∧ w'.cell? ⟨wr.heap.size, 7, none⟩ = some (.int .i64 d7) ∧ w'.cell? ⟨g, T * 8 + q * 8, none⟩ = some (.int .i64 f0) ∧ w'.cell? ⟨g, T * 8 + q * 8 + 1, none⟩ = some (.int .i64 f1) ∧ w'.cell? ⟨g, T * 8 + q * 8 + 2, none⟩ = some (.int .i64 f2) ∧ w'.cell? ⟨g, T * 8 + q * 8 + 3, none⟩ = some (.int .i64 f3) ∧ w'.cell? ⟨g, T * 8 + q * 8 + 4, none⟩ = some (.int .i64 f4) ∧ w'.cell? ⟨g, T * 8 + q * 8 + 5, none⟩ = some (.int .i64 f5) ∧ w'.cell? ⟨g, T * 8 + q * 8 + 6, none⟩ = some (.int .i64 f6) ∧ w'.cell? ⟨g, T * 8 + q * 8 + 7, none⟩ = some (.int .i64 f7)) (first | exact HK.out _ (Below.refl _ _) | exact HK.out _ BB2.out | exact HK.out _ BB1.out) (first
          | (go_at_call 98; (first | (with_reducible refine (HC1.out _).mono ?_) | (with_reducible refine (HC2.out _).mono ?_)); rintro e w4 ⟨rfl, hbx⟩; (first | (have BB2 := Lib.hid (Below.step BB1.out BB1.out.size hbx)) | (have BB1 := Lib.hid hbx)); clear hbx))
        all_goals
          clear hwq
          go_wp2
          go_roundw
          case rel => exact ⟨k + 1, q, by omega, by omega, by go_num, rfl, HE.out, Below.step HB3.out HB3.out.size BB2.out⟩
          case measure => simp [intOf]; omega
    · obtain rfl : n = k := by omega
      have HQM := Lib.hid (show miF (cvl F T b) n = q from HQ.out)
      go_wp2
      have e0 : wr.drew.cell? ⟨w.heap.size, 0, none⟩ = some (.int .i64 (V : Int)) := E0.out
      have e1 : wr.drew.cell? ⟨w.heap.size, 1, none⟩ = some (.int .i64 b) := E1.out
      have B3d := Lib.hid (show Below w2.heap.size w2 wr.drew from HB.out.drew)
      have HAL := Lib.hid (alloc_below wr.drew (.cells #[.slice (some ⟨g, T * 8 + q * 8, none⟩) (n - q) (c' - q), .slice (some ⟨g, T * 8, none⟩) q c'] 71))
      have a0 := Below.keeps_cell HAL.out e0
      have a1 := Below.keeps_cell HAL.out e1
      have B4 := Lib.hid (Below.step B2.out B2.out.size (Below.step B3d.out B3d.out.size HAL.out))
      have X0 := Lib.hid (show (wr.drew.alloc (.cells #[.slice (some ⟨g, T * 8 + q * 8, none⟩) (n - q) (c' - q), .slice (some ⟨g, T * 8, none⟩) q c'] 71)).cell? ⟨wr.heap.size, 0, none⟩ = some (.slice (some ⟨g, T * 8 + q * 8, none⟩) (n - q) (c' - q)) from cell_of_row _ _ 0 _ _ _ (heap_alloc_new wr.drew _))
      have X1 := Lib.hid (show (wr.drew.alloc (.cells #[.slice (some ⟨g, T * 8 + q * 8, none⟩) (n - q) (c' - q), .slice (some ⟨g, T * 8, none⟩) q c'] 71)).cell? ⟨wr.heap.size, 1, none⟩ = some (.slice (some ⟨g, T * 8, none⟩) q c') from cell_of_row _ _ 1 _ _ _ (heap_alloc_new wr.drew _))
      have HWA := Lib.hid ((WC.drew HWR.out).keep HAL.out)
      have hq0 : (0 : Int) ≤ (q : Int) := by omega
      have hqi : (q : Int) ≤ (n : Int) := by omega
      have hqn1 : q ≤ n := by omega
      have hqc : ¬ c' = q := by omega
      have hqc2 : q ≤ c' := by omega
      have hqc3 : (q : Int) ≤ (c' : Int) := by omega
      have hnc : (n : Int) ≤ (c' : Int) := by omega
      clear D0 D1 HWR HB 
      go_region_held3 (fun w' => w'.cell? ⟨w.heap.size, 0, none⟩ = some (.int .i64 (V : Int)) ∧ w'.cell? ⟨w.heap.size, 1, none⟩ = some (.int .i64 b)) (first | exact ⟨e0, e1⟩ | exact ⟨a0, a1⟩ | exact ⟨f0, f1⟩ | exact ⟨g0, g1⟩) (first
        | (go_at_call 110; refine (HCC.out g c' q _ _ hqn X0.out X1.out HWA.out).mono ?_; rintro e w4 ⟨u, rfl, hr, hb4⟩; have U4 := Lib.hid hr; have B5 := Lib.hid (Below.step B4.out B4.out.size hb4); have f0 := Below.keeps_cell hb4 a0; have f1 := Below.keeps_cell hb4 a1; clear hr hb4)
        | (go_at_call 109; refine (HLS.out q u _ hqn (U4.out.src (HJ8.out q))).mono ?_; rintro e w5 ⟨z, vs, rfl, hl5, hb5⟩; have L5 := Lib.hid hl5; have B6 := Lib.hid (Below.step B5.out B5.out.size hb5); have g0 := Below.keeps_cell hb5 f0; have g1 := Below.keeps_cell hb5 f1; clear hl5 hb5))
      go_wp2
      go_ret
      refine ⟨z, vs, rfl, ?_, B6.out⟩
      have := L5.out.mono B5.out.size
      rw [cyF_jn F T n q hqn] at this
      unfold cyL
      rw [HQM.out]
      exact this

end Go.Proofs.Ytegclfohkjemgaa
