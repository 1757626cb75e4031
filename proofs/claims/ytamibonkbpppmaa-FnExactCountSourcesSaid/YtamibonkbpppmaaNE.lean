/-
  The program's findSources.
-/
import Derived.Test.YtamibonkbpppmaaNA
import Derived.Test.YtamibonkbpppmaaN4
import Derived.Test.YtamibonkbpppmaaTI
namespace Go.Proofs.Ytamibonkbpppmaa
open Go.RowKit
set_option linter.unusedVariables false
set_option linter.unusedSimpArgs false
set_option maxRecDepth 100000

/-- The value of digits, the first one first. -/
def hv (b : Int) : List Int → Int → Int
  | [], a => a
  | d :: ds, a => hv b ds (a * b + d)
theorem hv_vs (b : Int) : ∀ (xs : List Int) (a : Int), hv b xs a = vs b xs.reverse + a * b ^ xs.length
  | [], a => by simp [hv, vs]
  | d :: ds, a => by
    rw [hv, hv_vs b ds, List.reverse_cons, vs_snoc, List.length_reverse, List.length_cons, Int.pow_succ]
    grind
theorem hv_step (b : Int) (xs : List Int) (k : Nat) (a : Int) (h : k < xs.length) : hv b (xs.drop k) a = hv b (xs.drop (k + 1)) (a * b + xs[k]) := by
  rw [List.drop_eq_getElem_cons h]; rfl

/-- The value of digits. -/
def vD (b : Int) (xs : List Int) : Int := vs b xs.reverse
theorem vD_bd {b : Int} (hb : 2 ≤ b) (hb' : b ≤ 16) {xs : List Int} (hx : ∀ x ∈ xs, 0 ≤ x ∧ x ≤ b - 1) (hl : xs.length ≤ 12) : 0 ≤ vD b xs ∧ vD b xs ≤ 281474976710656 := by
  have h1 := vs_bd b hb xs.reverse (fun x h => hx x (List.mem_reverse.1 h))
  have h2 := (pow_le13 hb hb' hl).2
  rw [List.length_reverse] at h1
  unfold vD
  omega

/-- How many sources of a width, of both widths; the first one. -/
def sW (b : Int) (W : Nat) (v : Int) : Int := if W = 0 then 0 else (srcV b W v 1).1
def cntS (b : Int) (xs : List Int) : Int := sW b (xs.length - 1) (vD b xs) + sW b xs.length (vD b xs)
def fstS (b : Int) (xs : List Int) : List Int := if sW b (xs.length - 1) (vD b xs) = 0 then (srcV b xs.length (vD b xs) 1).2 else (srcV b (xs.length - 1) (vD b xs) 1).2

theorem fin_pair {w : World} {s : Nat} {x0 x1 y0 y1 : Value} (o : Obj) (c0 : w.cell? ⟨s, 0, none⟩ = some y0) (c1 : w.cell? ⟨s, 1, none⟩ = some y1) (hs : s < w.heap.size) :
    (((w.setCell ⟨s, 0, none⟩ x0).setCell ⟨s, 1, none⟩ x1).alloc o).cell? ⟨s, 0, none⟩ = some x0 ∧ (((w.setCell ⟨s, 0, none⟩ x0).setCell ⟨s, 1, none⟩ x1).alloc o).cell? ⟨s, 1, none⟩ = some x1 := by
  obtain ⟨h0, h1⟩ := set_pair (x0 := x0) (x1 := x1) c0 c1
  exact ⟨(World.cell?_alloc_lt _ o _ (by simpa using hs)).trans h0, (World.cell?_alloc_lt _ o _ (by simpa using hs)).trans h1⟩
theorem fin_rd {w : World} {B s : Nat} {x0 x1 u : Value} {xs : List Int} (o : Obj) (h : Rd w B u xs) (hs : ∀ k, u.ownBlock = some k → s < k) : Rd (((w.setCell ⟨s, 0, none⟩ x0).setCell ⟨s, 1, none⟩ x1).alloc o) B u xs := by
  have hne : u.ownBlock = none ∨ u.ownBlock ≠ some s := by
    by_cases e : u.ownBlock = none
    · exact .inl e
    · exact .inr (fun h => by have := hs _ h; omega)
  exact ((h.grown (grown_setCell _ _ _ _) hne).grown (grown_setCell _ _ _ _) hne).alloc o
theorem fin_below {w0 w : World} {B s : Nat} {x0 x1 : Value} (o : Obj) (h : Below B w0 w) (hs : B ≤ s) (hsz : B ≤ w.heap.size) : Below B w0 (((w.setCell ⟨s, 0, none⟩ x0).setCell ⟨s, 1, none⟩ x1).alloc o) :=
  ((h.setCell hs _).setCell hs _).alloc (by simpa using hsz) o

set_option maxHeartbeats 1000000 in
theorem findSources_any (g cap : Nat) (xs : List Int) (b : Int) (B : Nat) (w : World) (h : Rd w B (.slice (some ⟨g, 0, none⟩) xs.length cap) xs) (hx : ∀ x ∈ xs, 0 ≤ x ∧ x ≤ b - 1) (hb : 2 ≤ b) (hb' : b ≤ 16) (h1 : 1 ≤ xs.length) (h12 : xs.length ≤ 12) :
    Calls Try.prog 41 #[lng (.slice (some ⟨g, 0, none⟩) xs.length cap) b] w fun e w' => ∃ u, e = .returned (.agg #[.int .i64 (cntS b xs), u]) ∧ Rd w' w.heap.size u (fstS b xs) ∧ Below w.heap.size w w' := by
  obtain ⟨L, hL⟩ : ∃ L, L = xs.length := ⟨_, rfl⟩
  have HG := Lib.hid h.at.2.2.2.2.1
  have hgg := h.at.2.2.1
  have HX := Lib.hid hx
  obtain ⟨V, hV⟩ : ∃ V, V = vD b xs := ⟨_, rfl⟩
  obtain ⟨V0, V1⟩ := vD_bd hb hb' hx h12
  rw [← hV] at V0 V1
  have HV := Lib.hid (show hv b xs 0 = V by rw [hv_vs, hV]; simp [vD])
  obtain ⟨s0, hs0⟩ : ∃ s0, s0 = srcV b L V 1 := ⟨_, rfl⟩
  obtain ⟨s1, hs1⟩ : ∃ s1, s1 = srcV b (L - 1) V 1 := ⟨_, rfl⟩
  have n0 : 0 ≤ s0.1 := by rw [hs0]; exact srcV_nn _ _ _ _
  have n1 : 0 ≤ s1.1 := by rw [hs1]; exact srcV_nn _ _ _ _
  have m0 : s0.1 ≤ 281474976710656 := by rw [hs0]; exact srcV_le hb hb' (by omega) _ _ (by omega)
  have m1 : s1.1 ≤ 281474976710656 := by rw [hs1]; exact srcV_le hb hb' (by omega) _ _ (by omega)
  have hcn : cntS b xs = (if L = 1 then 0 else s1.1) + s0.1 := by
    unfold cntS sW
    rw [← hL, ← hV, ← hs0, ← hs1, if_neg (show ¬ L = 0 by omega)]
    by_cases e : L = 1
    · rw [if_pos (show L - 1 = 0 by omega), if_pos e]
    · rw [if_neg (show ¬ L - 1 = 0 by omega), if_neg e]
  have HCN := Lib.hid hcn
  clear hcn
  have HFN := Lib.hid (show fstS b xs = if L = 1 ∨ s1.1 = 0 then s0.2 else s1.2 by
    unfold fstS sW; rw [← hL, ← hV, ← hs0, ← hs1]
    by_cases e : L = 1
    · rw [if_pos (show L - 1 = 0 by omega), if_pos rfl, if_pos (.inl e)]
    · rw [if_neg (show ¬ L - 1 = 0 by omega)]
      by_cases e2 : s1.1 = 0
      · rw [if_pos e2, if_pos (.inr e2)]
      · rw [if_neg e2, if_neg (fun c => c.elim e e2)])
  have HL := Lib.hid hL
  rw [← hL] at h1 h12 ⊢
  obtain ⟨w1, hw1⟩ : ∃ w1, w1 = (w.alloc (.cells #[.slice (some ⟨g, 0, none⟩) L cap, .int .i64 b] 62)).alloc (.cells #[.int .i64 0, .slice none 0 0] 66) := ⟨_, rfl⟩
  have HW1 := Lib.hid hw1
  have hsz1 : w1.heap.size = w.heap.size + 2 := by rw [hw1, World.size_alloc, World.size_alloc]
  have HAL := Lib.hid (show Below w.heap.size w w1 by rw [hw1]; exact (alloc_below w _).alloc (by rw [World.size_alloc]; omega) _)
  have HCB := Lib.hid (show w1.cell? ⟨w.heap.size, 1, none⟩ = some (.int .i64 b) by rw [hw1]; simp [go_sem])
  have HC0 := Lib.hid (show w1.cell? ⟨w.heap.size + 1, 0, none⟩ = some (.int .i64 0) by rw [hw1]; simp [go_sem])
  have HC1 := Lib.hid (show w1.cell? ⟨w.heap.size + 1, 1, none⟩ = some (.slice none 0 0) by rw [hw1]; simp [go_sem])
  have HF := Lib.hid (show ∀ j, w1.frozen? ⟨w.heap.size + 1, j, none⟩ = false from fun j => by rw [hw1]; simp [go_sem])
  have HS0 := Lib.hid (show ∀ w', Calls Try.prog 63 #[.int .i64 V, .int .i64 (L : Int), .int .i64 b, .int .i64 1] w' fun e w'' => ∃ u, e = .returned (.agg #[.int .i64 s0.1, u]) ∧ Rd w'' w'.heap.size u s0.2 ∧ Below w'.heap.size w' w'' from fun w' => by rw [hs0]; exact sourcesOf_any b hb hb' L (by omega) V 1 w' V0 (by omega) (by omega) (by omega))
  have HS1 := Lib.hid (show ∀ w', Calls Try.prog 63 #[.int .i64 V, .int .i64 ((L : Int) - 1), .int .i64 b, .int .i64 1] w' fun e w'' => ∃ u, e = .returned (.agg #[.int .i64 s1.1, u]) ∧ Rd w'' w'.heap.size u s1.2 ∧ Below w'.heap.size w' w'' from fun w' => by rw [hs1, show (L : Int) - 1 = ((L - 1 : Nat) : Int) by omega]; exact sourcesOf_any b hb hb' (L - 1) (by omega) V 1 w' V0 (by omega) (by omega) (by omega))
  obtain ⟨CN, hCN⟩ : ∃ CN, CN = cntS b xs := ⟨_, rfl⟩
  obtain ⟨FN, hFN⟩ : ∃ FN, FN = fstS b xs := ⟨_, rfl⟩
  have HCV := Lib.hid (show CN = (if L = 1 then 0 else s1.1) + s0.1 from hCN.trans HCN.out)
  have HFV := Lib.hid (show FN = if L = 1 ∨ s1.1 = 0 then s0.2 else s1.2 from hFN.trans HFN.out)
  rw [← hCN, ← hFN]
  clear hCN hFN
  clear hw1 hs0 hs1 hV hL h hx
  go_enter Try.func41, Try.ntmps41
  go_wp2
  go_loop [3, 12] (fun s i => ∃ (k : Nat) (m : Int), k ≤ L ∧ i = .int .i64 (k : Int) ∧ s = .int .i64 m ∧ 0 ≤ m ∧ m ≤ 281474976710656 ∧ Hid (m ≤ b ^ k - 1) ∧ Hid (hv b (xs.drop k) m = V)) (fun _ i => L - (intOf i).toNat)
  case atStart => exact ⟨0, 0, Nat.zero_le _, rfl, rfl, by omega, by omega, Lib.hid (by simp), Lib.hid (by rw [List.drop_zero]; exact HV.out)⟩
  case round =>
    obtain ⟨k, m, hk, rfl, rfl, mm0, mm1, HM, HN⟩ := hrel
    by_cases hlt : k < L
    · have hkx : k < xs.length := by rw [← HL.out]; exact hlt
      have hcell := HG.out k hkx
      obtain ⟨d, hd⟩ : ∃ d, d = xs[k] := ⟨_, rfl⟩
      obtain ⟨d0, d1⟩ := HX.out d (by rw [hd]; exact List.getElem_mem hkx)
      rw [← hd] at hcell
      have HST := Lib.hid (show hv b (xs.drop (k + 1)) (m * b + d) = V by rw [hd, ← hv_step b xs k m hkx]; exact HN.out)
      obtain ⟨p, hp⟩ : ∃ p, m * b = p := ⟨_, rfl⟩
      have p0 : 0 ≤ p := by rw [← hp]; exact Int.mul_nonneg mm0 (by omega)
      have p1 : p ≤ 4503599627370496 := by rw [← hp]; exact Int.mul_le_mul mm1 hb' (by omega) (by omega)
      have hpw : p + d ≤ b ^ (k + 1) - 1 := by
        have e1 : m * b ≤ (b ^ k - 1) * b := Int.mul_le_mul_of_nonneg_right HM.out (by omega)
        have e2 : (b ^ k - 1) * b = b ^ (k + 1) - b := by rw [Int.pow_succ, Int.sub_mul]; omega
        omega
      have HPW := Lib.hid hpw
      have hpm : p + d ≤ 281474976710656 := by have := (pow_le13 hb hb' (show k + 1 ≤ 12 by omega)).2; omega
      have HPP := Lib.hid hp
      clear hd hpw
      go_wp2
      go_round
      case rel => exact ⟨k + 1, p + d, by omega, by go_num, by first | rfl | go_num, by omega, hpm, HPW, Lib.hid (by rw [← HPP.out]; exact HST.out)⟩
      case measure => simp [intOf]; omega
    · obtain rfl : k = L := by omega
      obtain rfl : m = V := by have := HN.out; rw [HL.out, List.drop_length] at this; exact this
      go_wp2_with fail
      rw [← HW1.out]
      refine (HS0.out _).mono ?_
      rintro e w2 ⟨u2, rfl, hr2, hb2⟩
      obtain ⟨a2, d2, rfl⟩ := hr2.shape'
      have R2 := Lib.hid (hr2.mono (show w.heap.size ≤ w1.heap.size by omega))
      have KB2 := Lib.hid hb2
      have B2 := Lib.hid (Below.step HAL.out HAL.out.size hb2)
      have cb2 := Below.keeps_cell hb2 HCB.out
      have c0 := Below.keeps_cell hb2 HC0.out
      have c1 := Below.keeps_cell hb2 HC1.out
      have hfz : ∀ j, w2.frozen? ⟨w.heap.size + 1, j, none⟩ = false := fun j => by rw [(below_cells hb2).2 _ _ (by omega)]; exact HF.out j
      have HFZ := Lib.hid hfz
      have hsz2 := hb2.size
      have hlow2 := fun k hk => (hr2.lt k hk).1
      have HLOW := Lib.hid hlow2
      have HZ2 := Lib.hid hr2
      clear hr2 hb2 hfz hlow2
      by_cases hL1 : k = 1
      · have HC1' := Lib.hid (show CN = s0.1 by rw [HCV.out, if_pos hL1, Int.zero_add])
        have HF1' := Lib.hid (show FN = s0.2 by rw [HFV.out, if_pos (.inl hL1)])
        clear HCV HFV
        subst hL1
        have f0 := HFZ.out 0
        have f1 := HFZ.out 1
        have hne1 : ¬ w.heap.size + 1 = w2.heap.size := by omega
        have hne2 : ¬ w2.heap.size = w.heap.size + 1 := by omega
        have hlt1 : w.heap.size + 1 < w2.heap.size := by omega
        go_wp2
        obtain ⟨e0, e1⟩ := fin_pair (x0 := .int .i64 s0.1) (x1 := .slice a2 s0.2.length d2) (.cells #[.int .i64 s0.1, .slice a2 s0.2.length d2] 66) c0 c1 hlt1
        refine bodyPost_ret (ret_src rfl _ _ (w.heap.size + 1) _ _ rfl e0 e1) rfl ?_
        exact ⟨_, by rw [HC1'.out], by rw [HF1'.out]; exact fin_rd _ R2.out (fun k hk => by have := HLOW.out k hk; omega), fin_below _ B2.out (by omega) (by omega)⟩
      · have hbe : ((k : Int) == 1) = false := beq_no (by omega)
        obtain ⟨w3, hw3⟩ : ∃ w3, w3 = w2.alloc (.cells #[.int .i64 s0.1, .slice a2 s0.2.length d2] 66) := ⟨_, rfl⟩
        have HW3 := Lib.hid hw3
        have hsz3 : w3.heap.size = w2.heap.size + 1 := by rw [hw3, World.size_alloc]
        have K3 := Lib.hid (show Below w2.heap.size w2 w3 by rw [hw3]; exact alloc_below _ _)
        have hF0 : w3.cell? ⟨w2.heap.size, 0, none⟩ = some (.int .i64 s0.1) := by rw [hw3]; simp [go_sem]
        have hF1 : w3.cell? ⟨w2.heap.size, 1, none⟩ = some (.slice a2 s0.2.length d2) := by rw [hw3]; simp [go_sem]
        have HF0 := Lib.hid hF0
        have HF1 := Lib.hid hF1
        have HC02 := Lib.hid c0
        have HC12 := Lib.hid c1
        have hne0 : ¬ w.heap.size = w2.heap.size := by omega
        have hne0' : ¬ w2.heap.size = w.heap.size := by omega
        have hlt0 : w.heap.size < w2.heap.size := by omega
        clear hw3 hF0 hF1 c0 c1
        go_wp2_with fail
        rw [← HW3.out]
        refine (HS1.out _).mono ?_
        rintro e w4 ⟨u4, rfl, hr4, hb4⟩
        obtain ⟨a4, d4, rfl⟩ := hr4.shape'
        have hsz4 := hb4.size
        have HLOW4 := Lib.hid (fun k hk => (hr4.lt k hk).1)
        have R4 := Lib.hid (hr4.mono (show w.heap.size ≤ w3.heap.size by omega))
        have R24 := Lib.hid ((R2.out.keep K3.out).keep hb4)
        have B4 := Lib.hid (Below.step (Below.step B2.out B2.out.size K3.out) (by omega) hb4)
        have g0 := Below.keeps_cell hb4 HF0.out
        have g1 := Below.keeps_cell hb4 HF1.out
        have c0 := Below.keeps_cell hb4 (Below.keeps_cell K3.out HC02.out)
        have c1 := Below.keeps_cell hb4 (Below.keeps_cell K3.out HC12.out)
        have hfz : ∀ j, w4.frozen? ⟨w.heap.size + 1, j, none⟩ = false := fun j => by rw [(below_cells hb4).2 _ _ (by omega), (below_cells K3.out).2 _ _ (by omega)]; exact HFZ.out j
        have f0 := hfz 0
        have f1 := hfz 1
        have hne1 : ¬ w.heap.size + 1 = w4.heap.size := by omega
        have hne2 : ¬ w4.heap.size = w.heap.size + 1 := by omega
        have hlt1 : w.heap.size + 1 < w4.heap.size := by omega
        have hne3 : ¬ w2.heap.size = w4.heap.size := by omega
        have hne4 : ¬ w4.heap.size = w2.heap.size := by omega
        have hlt3 : w2.heap.size < w4.heap.size := by omega
        have hne5 : ¬ w.heap.size + 1 = w2.heap.size := by omega
        have hne6 : ¬ w2.heap.size = w.heap.size + 1 := by omega
        clear hr4 hb4 hfz
        by_cases hz : s1.1 = 0
        · have hzb : (s1.1 == 0) = true := beq_yes hz
          have HR := Lib.hid (show (if k = 1 then 0 else s1.1) + s0.1 = s0.1 by rw [if_neg hL1, hz, Int.zero_add])
          have HRL := Lib.hid (show (if k = 1 ∨ s1.1 = 0 then s0.2 else s1.2) = s0.2 from if_pos (.inr hz))
          clear hz
          go_wp2
          obtain ⟨e0, e1⟩ := fin_pair (x0 := .int .i64 s0.1) (x1 := .slice a2 s0.2.length d2) (.cells #[.int .i64 s1.1, .slice a4 s1.2.length d4] 66) c0 c1 hlt1
          refine bodyPost_ret (ret_src rfl _ _ (w.heap.size + 1) _ _ rfl e0 e1) rfl ?_
          exact ⟨_, by rw [HCV.out, HR.out], by rw [HFV.out, HRL.out]; exact fin_rd _ R24.out (fun k hk => by have := HLOW.out k hk; omega), fin_below _ B4.out (by omega) (by omega)⟩
        · have hzb : (s1.1 == 0) = false := beq_no hz
          have HR := Lib.hid (show (if k = 1 then 0 else s1.1) + s0.1 = s1.1 + s0.1 by rw [if_neg hL1])
          have HRL := Lib.hid (show (if k = 1 ∨ s1.1 = 0 then s0.2 else s1.2) = s1.2 from if_neg (fun c => c.elim hL1 hz))
          clear hz
          go_wp2
          obtain ⟨e0, e1⟩ := fin_pair (x0 := .int .i64 (s1.1 + s0.1)) (x1 := .slice a4 s1.2.length d4) (.cells #[.int .i64 s1.1, .slice a4 s1.2.length d4] 66) c0 c1 hlt1
          refine bodyPost_ret (ret_src rfl _ _ (w.heap.size + 1) _ _ rfl e0 e1) rfl ?_
          exact ⟨_, by rw [HCV.out, HR.out], by rw [HFV.out, HRL.out]; exact fin_rd _ R4.out (fun k hk => by have := HLOW4.out k hk; omega), fin_below _ B4.out (by omega) (by omega)⟩

end Go.Proofs.Ytamibonkbpppmaa
