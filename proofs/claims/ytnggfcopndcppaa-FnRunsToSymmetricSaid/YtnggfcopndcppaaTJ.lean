/-
  Joint text of TZ TV TW T1 T2 (written by wip/tools/merge.py).
-/
import Derived.Test.YtnggfcopndcppaaTB
import Derived.Test.YtnggfcopndcppaaD
import Derived.Lib.Slices
import Derived.Test.YtnggfcopndcppaaTU
import Derived.Test.YtnggfcopndcppaaTI
/- from XTZ -/
namespace Go.Proofs.Ytnggfcopndcppaa
open Go.RowKit
set_option linter.unusedVariables false
set_option linter.unusedSimpArgs false

/-- Widths whose numbers are counted. -/
def okSp (V b : Int) : Bool := decide (2 ≤ b ∧ b ≤ 16) && decide (1 ≤ V ∧ V ≤ 14) && decide ((b - 1) * b ^ (V.toNat - 1) ≤ 20000)

structure Sp (V : Nat) (b : Int) : Prop where
  b2 : 2 ≤ b
  b16 : b ≤ 16
  v1 : 1 ≤ V
  v14 : V ≤ 14
  le : (b - 1) * b ^ (V - 1) ≤ 20000

theorem okSp_sp {V b : Int} (h : okSp V b = true) : ∃ k : Nat, V = (k : Int) ∧ Sp k b := by
  simp only [okSp, Bool.and_eq_true, decide_eq_true_eq] at h
  refine ⟨V.toNat, by omega, ⟨h.1.1.1, h.1.1.2, by omega, by omega, h.2⟩⟩

theorem pw_pos (b : Int) (hb : 2 ≤ b) (n : Nat) : 1 ≤ b ^ n := by
  have : 0 < b ^ n := Int.pow_pos (by omega)
  omega

theorem pw_le16 (b : Int) (hb : 2 ≤ b) (hb' : b ≤ 16) (n : Nat) : b ^ n ≤ 16 ^ n := by
  induction n with
  | zero => simp
  | succ n ih =>
    rw [Int.pow_succ, Int.pow_succ]
    exact Int.mul_le_mul ih hb' (by omega) (by have := pw_pos 16 (by omega) n; omega)
theorem pw_bd (b : Int) (hb : 2 ≤ b) (hb' : b ≤ 16) (n : Nat) (hn : n ≤ 14) : 1 ≤ b ^ n ∧ b ^ n ≤ 72057594037927936 := by
  refine ⟨pw_pos b hb n, Int.le_trans (pw_le16 b hb hb' n) ?_⟩
  have h : (16:Int) ^ n ≤ 16 ^ 14 := by
    have h1 : ∀ k, (16:Int) ^ n ≤ 16 ^ (n + k) := by
      intro k
      induction k with
      | zero => exact Int.le_refl _
      | succ k ih =>
        rw [← Nat.add_assoc, Int.pow_succ]
        have := pw_pos 16 (by omega) (n + k)
        omega
    have := h1 (14 - n)
    rwa [show n + (14 - n) = 14 by omega] at this
  have e : (16:Int) ^ 14 = 72057594037927936 := by decide
  omega

theorem Sp.least {V : Nat} {b : Int} (h : Sp V b) : 1 ≤ b ^ (V - 1) ∧ b ^ (V - 1) ≤ 20000 := by
  have h1 := pw_pos b h.b2 (V - 1)
  refine ⟨h1, ?_⟩
  have h2 : 1 * b ^ (V - 1) ≤ (b - 1) * b ^ (V - 1) := Int.mul_le_mul_of_nonneg_right (by have := h.b2; omega) (by omega)
  have := h.le
  omega
/-- How many numbers of a width there are. -/
def cnN (V : Nat) (b : Int) : Nat := ((b - 1) * b ^ (V - 1)).toNat
theorem Sp.cn {V : Nat} {b : Int} (h : Sp V b) : ((cnN V b : Nat) : Int) = (b - 1) * b ^ (V - 1) ∧ 1 ≤ cnN V b ∧ cnN V b ≤ 20000 := by
  have h1 := h.least
  have h0 : 1 * 1 ≤ (b - 1) * b ^ (V - 1) := Int.mul_le_mul (by have := h.b2; omega) h1.1 (by omega) (by have := h.b2; omega)
  have h2 := h.le
  unfold cnN
  omega

/-- The digits of a number of a width. -/
theorem dgs_Dg (b n : Int) (hb : 2 ≤ b) (hb' : b ≤ 16) (h0 : 0 ≤ n) (h1 : n ≤ 1000000000000) : Dg b (dgs b n) :=
  ⟨hb, hb', dgs_pos b n, dgs_len40 b n hb h0 h1, dgs_all b n hb h0⟩

/-- How many times the i-th number of a width needs. -/
def tmW (V : Nat) (b : Int) (m : Nat) (i : Nat) : Option Nat := rvT b m (dgs b (b ^ (V - 1) + (i : Int)))
def tmZ (V : Nat) (b : Int) (m : Nat) (i : Nat) : Int := match tmW V b m i with
  | some k => (k : Int)
  | none => -1
theorem tmZ_bd (V : Nat) (b : Int) (m i : Nat) : -1 ≤ tmZ V b m i ∧ tmZ V b m i ≤ m := by
  unfold tmZ
  cases h : tmW V b m i with
  | none => simp only; omega
  | some k =>
    have := rvT_le h
    simp only; omega

/-- The number with 1 at all places. -/
def onesN (b : Int) : Nat → Int
  | 0 => 1
  | k + 1 => b * onesN b k + 1
theorem onesN_bd (b : Int) (hb : 2 ≤ b) (k : Nat) : b ^ k ≤ onesN b k ∧ onesN b k ≤ 2 * b ^ k - 1 := by
  induction k with
  | zero => simp [onesN]
  | succ k ih =>
    have h1 : b * b ^ k ≤ b * onesN b k := Int.mul_le_mul_of_nonneg_left ih.1 (by omega)
    have h2 : b * onesN b k ≤ b * (2 * b ^ k - 1) := Int.mul_le_mul_of_nonneg_left ih.2 (by omega)
    have h3 : b * (2 * b ^ k - 1) = 2 * (b * b ^ k) - b := by grind
    rw [Int.pow_succ, Int.mul_comm (b ^ k) b]
    simp only [onesN]
    omega
theorem revD_ones (b : Int) (hb : 2 ≤ b) (k : Nat) : revD b (onesN b k) = List.replicate (k + 1) 1 := by
  induction k with
  | zero => simp only [onesN]; rw [revD_small b 1 (by omega)]; rfl
  | succ k ih =>
    have h1 := onesN_bd b hb k
    have hp := pw_pos b hb k
    have h2 : b * 1 ≤ b * onesN b k := Int.mul_le_mul_of_nonneg_left (by omega) (by omega)
    rw [revD_big b _ hb (by simp only [onesN]; omega)]
    have e1 : onesN b (k + 1) % b = 1 := by
      simp only [onesN]
      rw [Int.add_comm, Int.add_mul_emod_self_left, Int.emod_eq_of_lt (by omega) (by omega)]
    have e2 : onesN b (k + 1) / b = onesN b k := by
      simp only [onesN]
      rw [Int.add_comm, Int.add_mul_ediv_left _ _ (by omega), Int.ediv_eq_zero_of_lt (by omega) (by omega), Int.zero_add]
    rw [e1, e2, ih]
    rfl

theorem ones_pal (b : Int) (hb : 2 ≤ b) (k : Nat) : palB (dgs b (onesN b k)) = true := by
  unfold palB dgs
  rw [revD_ones b hb k]
  simp

/-- Some number of the width needs no time at all. -/
theorem Sp.some0 {V : Nat} {b : Int} (h : Sp V b) (m : Nat) : ∃ i, i < cnN V b ∧ tmZ V b m i = 0 := by
  have h1 := onesN_bd b h.b2 (V - 1)
  have h2 := h.cn
  have h3 := h.least
  have h4 : 1 * b ^ (V - 1) ≤ (b - 1) * b ^ (V - 1) := Int.mul_le_mul_of_nonneg_right (by have := h.b2; omega) (by omega)
  refine ⟨(onesN b (V - 1) - b ^ (V - 1)).toNat, by omega, ?_⟩
  have e : b ^ (V - 1) + (((onesN b (V - 1) - b ^ (V - 1)).toNat : Nat) : Int) = onesN b (V - 1) := by omega
  have hT : tmW V b m (onesN b (V - 1) - b ^ (V - 1)).toNat = some 0 := by
    unfold tmW
    rw [e]
    have hr := rvR_pal (ones_pal b h.b2 (V - 1)) (b := b) m
    unfold rvT
    rw [hr]
    simp [ones_pal b h.b2 (V - 1)]
  unfold tmZ
  rw [hT]
  rfl

/-- The spread over the first n numbers. -/
def ixT (m : Nat) : Option Nat → Nat
  | some k => k
  | none => m + 1
def sprN (V : Nat) (b : Int) (m : Nat) : Nat → List Int
  | 0 => List.replicate (m + 2) 0
  | n + 1 => (sprN V b m n).set (ixT m (tmW V b m n)) ((sprN V b m n).getD (ixT m (tmW V b m n)) 0 + 1)
theorem sprN_len (V : Nat) (b : Int) (m n : Nat) : (sprN V b m n).length = m + 2 := by
  induction n with
  | zero => simp [sprN]
  | succ n ih => simp [sprN, ih]
theorem ixT_lt (V : Nat) (b : Int) (m n : Nat) : ixT m (tmW V b m n) < m + 2 := by
  cases h : tmW V b m n with
  | none => simp [ixT]
  | some k => have := rvT_le h; simp only [ixT]; omega
theorem sprN_bd (V : Nat) (b : Int) (m n : Nat) (j : Nat) : 0 ≤ (sprN V b m n).getD j 0 ∧ (sprN V b m n).getD j 0 ≤ n := by
  induction n generalizing j with
  | zero =>
    simp only [sprN]
    rw [List.getD_eq_getElem?_getD, List.getElem?_replicate]
    split <;> simp
  | succ n ih =>
    simp only [sprN]
    rw [List.getD_eq_getElem?_getD, List.getElem?_set]
    have h1 := ih j
    have h2 := ih (ixT m (tmW V b m n))
    rw [List.getD_eq_getElem?_getD] at h1
    split
    · split
      · simp only [Option.getD_some]; omega
      · simp only [Option.getD_none]; omega
    · omega

/-- The slowest of the first n numbers: its place, and how long it takes. -/
def slwN (V : Nat) (b : Int) (m : Nat) : Nat → Nat × Int
  | 0 => (0, -1)
  | n + 1 => if (slwN V b m n).2 < tmZ V b m n then (n, tmZ V b m n) else slwN V b m n
theorem slwN_spec (V : Nat) (b : Int) (m n : Nat) : (∀ i, i < n → tmZ V b m i ≤ (slwN V b m n).2) ∧ -1 ≤ (slwN V b m n).2 ∧
    ((slwN V b m n).2 = -1 ∨ ((slwN V b m n).1 < n ∧ tmZ V b m (slwN V b m n).1 = (slwN V b m n).2 ∧ ∀ j, j < (slwN V b m n).1 → tmZ V b m j ≠ (slwN V b m n).2)) := by
  induction n with
  | zero => exact ⟨fun i hi => by omega, by simp [slwN], .inl rfl⟩
  | succ n ih =>
    obtain ⟨h1, h2, h3⟩ := ih
    simp only [slwN]
    split
    · next hlt =>
      refine ⟨fun i hi => ?_, (tmZ_bd V b m n).1, .inr ⟨by simp, rfl, fun j hj => ?_⟩⟩
      · by_cases e : i = n
        · rw [e]; exact Int.le_refl _
        · have := h1 i (by omega); simp only; omega
      · have := h1 j hj; simp only; omega
    · next hlt =>
      refine ⟨fun i hi => ?_, h2, ?_⟩
      · by_cases e : i = n
        · rw [e]; omega
        · exact h1 i (by omega)
      · rcases h3 with h3 | ⟨h3, h4, h5⟩
        · exact .inl h3
        · exact .inr ⟨by omega, h4, h5⟩

theorem foldl_max (zs : List Int) (a : Int) : (∀ z ∈ zs, z ≤ zs.foldl max a) ∧ a ≤ zs.foldl max a ∧ (zs.foldl max a = a ∨ zs.foldl max a ∈ zs) := by
  induction zs generalizing a with
  | nil => exact ⟨fun z hz => by simp at hz, Int.le_refl _, .inl rfl⟩
  | cons c t ih =>
    obtain ⟨h1, h2, h3⟩ := ih (max a c)
    simp only [List.foldl_cons]
    refine ⟨fun z hz => ?_, by omega, ?_⟩
    · rcases List.mem_cons.1 hz with rfl | hz
      · omega
      · exact h1 z hz
    · rcases h3 with h3 | h3
      · by_cases e : a ≤ c
        · right; rw [h3, show max a c = c by omega]; simp
        · left; rw [h3]; omega
      · right; simp [h3]

theorem maxOf_is (zs : List Int) (M : Int) (h1 : ∀ z ∈ zs, z ≤ M) (h2 : M ∈ zs) : Lib.maxOf zs = M := by
  unfold Lib.maxOf
  obtain ⟨a1, a2, a3⟩ := foldl_max zs (zs.headD 0)
  have b1 := a1 M h2
  rcases a3 with a3 | a3
  · have : zs.headD 0 ≤ M := by
      cases zs with
      | nil => simp at h2
      | cons c t => exact h1 c (by simp)
    omega
  · have := h1 _ a3
    omega

end Go.Proofs.Ytnggfcopndcppaa

/- from XTV -/
namespace Go.Proofs.Ytnggfcopndcppaa
open Go.RowKit
set_option linter.unusedVariables false
set_option linter.unusedSimpArgs false
set_option maxRecDepth 100000

/-- Times that may be asked for. -/
def okM (m : Int) : Bool := decide (0 ≤ m ∧ m ≤ 100)

theorem areTimes_any (m : Int) (w : World) : Calls Try.prog 60 #[.int .i64 m] w fun e w' => e = .returned (.bool (okM m)) ∧ w = w' := by
  by_cases h0 : 0 ≤ m
  · by_cases h1 : m ≤ 100
    · have HO := Lib.hid (show okM m = true from decide_eq_true ⟨h0, h1⟩)
      go_enter Try.func60, Try.ntmps60
      go_wp2
      go_ret
      exact ⟨ret_bool (by rw [HO.out]; try simp [h1]), rfl⟩
    · have HO := Lib.hid (show okM m = false from decide_eq_false (fun h => h1 h.2))
      go_enter Try.func60, Try.ntmps60
      go_wp2
      go_ret
      exact ⟨ret_bool (by rw [HO.out]; try (simp; omega)), rfl⟩
  · have HO := Lib.hid (show okM m = false from decide_eq_false (fun h => h0 h.1))
    go_enter Try.func60, Try.ntmps60
    go_wp2
    go_ret
    exact ⟨ret_bool (by rw [HO.out]), rfl⟩

theorem rvMost_any (m : Int) (w : World) : Calls Try.prog 63 #[.int .i64 m] w fun e w' => e = .returned (.bool (okM m)) ∧ w = w' := by
  by_cases h : 0 ≤ m ∧ m ≤ 100
  · have HO := Lib.hid (show okM m = true from decide_eq_true h)
    obtain ⟨h1, h2⟩ := h
    go_enter Try.func63, Try.ntmps63
    go_wp2_with (go_at_call 82; refine (l1In_yes _ _ _ _ h1 h2).mono ?_; rintro e w' ⟨rfl, rfl⟩)
    go_ret
    exact ⟨ret_bool HO.out.symm, rfl⟩
  · have HO := Lib.hid (show okM m = false from decide_eq_false h)
    have H := Lib.hid (show m < 0 ∨ 100 < m by omega)
    clear h
    go_enter Try.func63, Try.ntmps63
    go_wp2_with (go_at_call 82; refine (l1In_no _ _ _ _ H.out).mono ?_; rintro e w' ⟨rfl, rfl⟩)
    go_ret
    exact ⟨ret_bool HO.out.symm, rfl⟩

/-- The program's number of times, -1 for none. -/
def tmN (o : Option Nat) : Int := match o with
  | some k => (k : Int)
  | none => -1

theorem timesNeeded_any (g c : Nat) (cur : List Int) (b : Int) (n : Nat) (al : Option Addr) (cl D : Nat) (w : World) (h : Rd w D (.slice (some ⟨g, 0, none⟩) cur.length c) cur) (h1 : 1 ≤ cur.length) (hl : cur.length ≤ 1000000) (hn : n ≤ 100000) :
    Calls Try.prog 65 #[.agg #[.slice (some ⟨g, 0, none⟩) cur.length c, .int .i64 b, .slice al n cl]] w fun e w' => e = .returned (.int .i64 (if palB cur = true then (n : Int) else -1)) ∧ Below w.heap.size w w' := by
  have H := Lib.hid h
  have HAL := Lib.hid (alloc_below w (.cells #[.slice (some ⟨g, 0, none⟩) cur.length c, .int .i64 b, .slice al n cl] 75))
  have HC2 := Lib.hid (show (w.alloc (.cells #[.slice (some ⟨g, 0, none⟩) cur.length c, .int .i64 b, .slice al n cl] 75)).cell? ⟨w.heap.size, 2, none⟩ = some (.slice al n cl) by simp [go_sem])
  clear h
  by_cases hp : palB cur = true
  · have HP := Lib.hid hp
    rw [if_pos hp]
    clear hp
    go_enter Try.func65, Try.ntmps65
    go_wp2_with fail
    refine (isSymmetric_any g c cur b D _ (H.out.keep HAL.out) h1 hl).mono ?_
    rw [HP.out]
    rintro e w1 ⟨rfl, hb⟩
    have B1 := Lib.hid (Below.step HAL.out HAL.out.size hb)
    have c2 := Below.keeps_cell hb HC2.out
    clear hb
    go_wp2
    go_ret
    exact ⟨rfl, B1.out⟩
  · have hp' : palB cur = false := by simpa using hp
    have HP := Lib.hid hp'
    rw [if_neg hp]
    clear hp hp'
    go_enter Try.func65, Try.ntmps65
    go_wp2_with fail
    refine (isSymmetric_any g c cur b D _ (H.out.keep HAL.out) h1 hl).mono ?_
    rw [HP.out]
    rintro e w1 ⟨rfl, hb⟩
    have B1 := Lib.hid (Below.step HAL.out HAL.out.size hb)
    clear hb
    go_wp2
    go_ret
    exact ⟨rfl, B1.out⟩

theorem tmN_of {b : Int} {most : Nat} {x0 cur : List Int} {ls : List (List Int)} (h : ls ++ [cur] = rvR b most x0) : (if palB cur = true then (ls.length : Int) else -1) = tmN (rvT b most x0) := by
  rw [rvT_of h]
  by_cases hp : palB cur = true
  · rw [if_pos hp, if_pos hp]; rfl
  · rw [if_neg hp, if_neg hp]; rfl
theorem ls_le {b : Int} {most : Nat} {x0 cur : List Int} {ls : List (List Int)} (h : ls ++ [cur] = rvR b most x0) : ls.length ≤ most := by
  have := (rvR_len b most x0).2
  rw [← h, List.length_append, List.length_singleton] at this
  omega

/-- The program's times for digits that are good. -/
theorem runTimes_any (g cap : Nat) (xs : List Int) (b : Int) (most D : Nat) (w : World) (h : Rd w D (.slice (some ⟨g, 0, none⟩) xs.length cap) xs) (hD : D ≤ w.heap.size) (hd : Dg b xs) (hm : most ≤ 100) :
    Calls Try.prog 61 #[lng (.slice (some ⟨g, 0, none⟩) xs.length cap) b, .int .i64 (most : Int)] w fun e w' => ∃ g' c' al n cl, e = .returned (.agg #[g', .int .i64 b, .slice al n cl]) ∧ Below w.heap.size w w' ∧
      (∃ gg m, g' = .slice (some ⟨gg, 0, none⟩) m c') ∧ ∀ w'', Below w'.heap.size w' w'' → Calls Try.prog 65 #[.agg #[g', .int .i64 b, .slice al n cl]] w'' fun e w3 => e = .returned (.int .i64 (tmN (rvT b most xs))) ∧ Below w''.heap.size w'' w3 := by
  refine (runUpTo_any g cap xs b most D w h hD hd hm).mono ?_
  rintro e w' ⟨vs, ls, cur, g', c', al, cl, rfl, hlf, hrd, _, heq, hdg, hb⟩
  refine ⟨_, c', al, ls.length, cl, rfl, hb, ⟨_, _, rfl⟩, fun w'' hb2 => ?_⟩
  refine (timesNeeded_any g' c' cur b ls.length al cl D w'' (hrd.keep hb2) hdg.l1 (by have := hdg.l40; omega) (by have := ls_le heq; omega)).mono ?_
  rintro e w3 ⟨rfl, hb3⟩
  exact ⟨by rw [tmN_of heq], hb3⟩

theorem rvSteps_any (v : Value) (xs : List Int) (b : Int) (most B : Nat) (w : World) (h : Rd w B v xs) (hd : Dg b xs) (hm : most ≤ 100) :
    Calls Try.prog 66 #[v, .int .i64 b, .int .i64 (most : Int)] w fun e w' => e = .returned (.tuple #[.int .i64 (((rvT b most xs).getD 0 : Nat) : Int), .bool (rvT b most xs).isSome]) ∧ Below w.heap.size w w' := by
  have H := Lib.hid h
  have HD := Lib.hid hd
  obtain ⟨a, cap, rfl⟩ := h.sl.len
  clear h hd
  obtain ⟨L, hL⟩ : ∃ L, L = rvR b most xs := ⟨_, rfl⟩
  have hln := rvR_len b most xs
  have hall := rvR_all (most := most) HD.out
  rw [← hL] at hln hall
  obtain ⟨ls, cur, hsp⟩ : ∃ ls cur, L = ls ++ [cur] := by
    have hne : L ≠ [] := fun e => by rw [e] at hln; simp at hln
    exact ⟨L.dropLast, L.getLast hne, (List.dropLast_concat_getLast hne).symm⟩
  have hT := rvT_of (b := b) (most := most) (x0 := xs) (cur := cur) (ls := ls) (by rw [← hsp, hL])
  have HRUN := Lib.hid (fun w' (h : Rd w' B (.slice a xs.length cap) xs) => rvRun_any _ xs b most B w' h HD.out hm)
  rw [← hL] at HRUN
  have hk : L.length = ls.length + 1 := by rw [hsp]; simp
  have hcl : cur.length ≤ 40 := (hall cur (by rw [hsp]; simp)).l40
  have HGET := Lib.hid (show ∀ (h : ls.length < L.length), L[ls.length] = cur by rw [hsp]; intro h; simp)
  have hlb : ls.length ≤ 100 := by omega
  rw [hk] at HRUN
  have HK := Lib.hid hk
  clear hL hln hall hsp hk
  by_cases hp : palB cur = true
  · have HP := Lib.hid hp
    rw [hT, if_pos hp]
    clear hp hT
    go_enter Try.func66, Try.ntmps66
    go_wp2_with fail
    refine (HRUN.out _ H.out).mono ?_
    rintro e w1 ⟨g1, c1, vs, rfl, hll, hb⟩
    obtain ⟨z, g3, c3, hz, hv3, hcell, hrz⟩ := hll.get ls.length (by rw [HK.out]; omega)
    simp only [Value.slice.injEq, Option.some.injEq, Addr.mk.injEq, and_true] at hv3
    obtain ⟨rfl, hvx, rfl⟩ := hv3
    clear hvx
    rw [HGET.out] at hrz
    obtain ⟨az, cz, rfl⟩ := hrz.sl.len
    have RZ := Lib.hid hrz
    have B1 := Lib.hid hb
    clear hll hz hrz hb
    have hw1 : IntKind.i64.wrap (((ls.length + 1 : Nat) : Int) - 1) = ((ls.length : Nat) : Int) := by rw [IntWalk.i64_in _ (by omega)]; omega
    have hw2 : IntKind.i64.wrap ((ls.length : Int) + 1 - 1) = ((ls.length : Nat) : Int) := by rw [IntWalk.i64_in _ (by omega)]; omega
    go_wp2_with (go_at_call 58; go_loud (refine (dgPalindrome_any _ _ _ _ RZ.out (by omega)).mono ?_; rw [HP.out]; rintro e w2 ⟨rfl, hb2⟩; have B2 := Lib.hid (Below.step B1.out B1.out.size hb2); clear hb2))
    go_ret2
    exact ⟨by simp, B2.out⟩
  · have hp' : palB cur = false := by simpa using hp
    have HP := Lib.hid hp'
    rw [hT, if_neg hp]
    clear hp hp' hT
    go_enter Try.func66, Try.ntmps66
    go_wp2_with fail
    refine (HRUN.out _ H.out).mono ?_
    rintro e w1 ⟨g1, c1, vs, rfl, hll, hb⟩
    obtain ⟨z, g3, c3, hz, hv3, hcell, hrz⟩ := hll.get ls.length (by rw [HK.out]; omega)
    simp only [Value.slice.injEq, Option.some.injEq, Addr.mk.injEq, and_true] at hv3
    obtain ⟨rfl, hvx, rfl⟩ := hv3
    clear hvx
    rw [HGET.out] at hrz
    obtain ⟨az, cz, rfl⟩ := hrz.sl.len
    have RZ := Lib.hid hrz
    have B1 := Lib.hid hb
    clear hll hz hrz hb
    go_wp2_with (go_at_call 58; go_loud (refine (dgPalindrome_any _ _ _ _ RZ.out (by omega)).mono ?_; rw [HP.out]; rintro e w2 ⟨rfl, hb2⟩; have B2 := Lib.hid (Below.step B1.out B1.out.size hb2); clear hb2))
    go_ret2
    exact ⟨rfl, B2.out⟩

end Go.Proofs.Ytnggfcopndcppaa

/- from XTW -/
namespace Go.Proofs.Ytnggfcopndcppaa
open Go.RowKit
set_option linter.unusedVariables false
set_option linter.unusedSimpArgs false
set_option maxRecDepth 100000

/-- How many times digits need, if they may be asked for. -/
def R_Steps (xs : List Int) (b m : Int) : Option Nat := if okR b xs = true ∧ okM m = true then rvT b m.toNat xs else none
abbrev VAL_StepsToSymmetric (xs : List Int) (b m : Int) : Value := .tuple #[.int .i64 (((R_Steps xs b m).getD 0 : Nat) : Int), .bool (R_Steps xs b m).isSome]

theorem R_Steps_yes {xs : List Int} {b m : Int} (h1 : okR b xs = true) (h2 : okM m = true) : R_Steps xs b m = rvT b m.toNat xs := if_pos ⟨h1, h2⟩
theorem R_Steps_no1 {xs : List Int} {b m : Int} (h1 : okR b xs = false) : R_Steps xs b m = none := if_neg (fun h => by rw [h1] at h; cases h.1)
theorem R_Steps_no2 {xs : List Int} {b m : Int} (h1 : okM m = false) : R_Steps xs b m = none := if_neg (fun h => by rw [h1] at h; cases h.2)
theorem okM_nat {m : Int} (h : okM m = true) : ∃ k : Nat, m = (k : Int) ∧ k ≤ 100 := by
  have := of_decide_eq_true h
  exact ⟨m.toNat, by omega, by omega⟩

theorem impl_StepsToSymmetric (v : Value) (xs : List Int) (b m : Int) (B : Nat) (w : World) (h : Rd w B v xs) (hl : xs.length ≤ 1048576) :
    Calls Try.prog 25 #[v, .int .i64 b, .int .i64 m] w fun e w' => e = .returned (VAL_StepsToSymmetric xs b m) ∧ Below w.heap.size w w' := by
  have H := Lib.hid h
  obtain ⟨a, cap, rfl⟩ := h.sl.len
  clear h
  unfold VAL_StepsToSymmetric
  rcases okR_cases b xs with ⟨ho, hd⟩ | ho
  · have HO := Lib.hid ho
    have HD := Lib.hid hd
    by_cases hm : okM m = true
    · have HM := Lib.hid hm
      have hR := R_Steps_yes ho hm
      obtain ⟨k, rfl, hk⟩ := okM_nat hm
      rw [Int.toNat_natCast] at hR
      obtain ⟨T, hT⟩ : ∃ T, T = rvT b k xs := ⟨_, rfl⟩
      have HRT := Lib.hid (fun g cap w' (h : Rd w' w.heap.size (.slice (some ⟨g, 0, none⟩) xs.length cap) xs) (hD : w.heap.size ≤ w'.heap.size) => runTimes_any g cap xs b k w.heap.size w' h hD hd hk)
      rw [← hT] at HRT hR
      have hTk : ∀ q, T = some q → q ≤ 100 := fun q hq => Nat.le_trans (rvT_le (b := b) (most := k) (x0 := xs) (by rw [← hT]; exact hq)) hk
      rw [hR]
      clear hT hR ho hd hm
      cases T with
      | none =>
        go_enter Try.func25, Try.ntmps25
        go_wp2_with fail
        refine (long_yes _ _ _ _ _ H.out hl HO.out).mono ?_
        rintro e w1 ⟨g1, cap1, rfl, hr, hb1⟩
        have R1 := Lib.hid hr
        have B1 := Lib.hid hb1
        have HAL := Lib.hid (alloc_below w1 (.cells #[.slice (some ⟨g1, 0, none⟩) xs.length cap1, .int .i64 b] 56))
        have R2 := Lib.hid (R1.out.keep HAL.out)
        have B2 := Lib.hid (Below.step B1.out B1.out.size HAL.out)
        clear hr hb1
        go_wp2_with fail
        refine (areTimes_any _ _).mono ?_
        rw [HM.out]
        rintro e w2 ⟨rfl, rfl⟩
        go_wp2_with fail
        refine (HRT.out g1 cap1 _ R2.out B2.out.size).mono ?_
        rintro e w3 ⟨g', c', al, n, cl, rfl, hb3, ⟨gg, mm, rfl⟩, hnx⟩
        have B3 := Lib.hid (Below.step B2.out B2.out.size hb3)
        have NX := Lib.hid (hnx w3 (Below.refl _ _))
        clear hb3 hnx
        go_wp2_with fail
        refine NX.out.mono ?_
        rintro e w4 ⟨rfl, hb4⟩
        have B4 := Lib.hid (Below.step B3.out B3.out.size hb4)
        clear hb4
        simp only [tmN]
        go_wp2
        go_ret2
        exact ⟨rfl, B4.out⟩
      | some q =>
        have hq := hTk q rfl
        have hqn : ((q : Int) == -1) = false := beq_no (by omega)
        go_enter Try.func25, Try.ntmps25
        go_wp2_with fail
        refine (long_yes _ _ _ _ _ H.out hl HO.out).mono ?_
        rintro e w1 ⟨g1, cap1, rfl, hr, hb1⟩
        have R1 := Lib.hid hr
        have B1 := Lib.hid hb1
        have HAL := Lib.hid (alloc_below w1 (.cells #[.slice (some ⟨g1, 0, none⟩) xs.length cap1, .int .i64 b] 56))
        have R2 := Lib.hid (R1.out.keep HAL.out)
        have B2 := Lib.hid (Below.step B1.out B1.out.size HAL.out)
        clear hr hb1
        go_wp2_with fail
        refine (areTimes_any _ _).mono ?_
        rw [HM.out]
        rintro e w2 ⟨rfl, rfl⟩
        go_wp2_with fail
        refine (HRT.out g1 cap1 _ R2.out B2.out.size).mono ?_
        rintro e w3 ⟨g', c', al, n, cl, rfl, hb3, ⟨gg, mm, rfl⟩, hnx⟩
        have B3 := Lib.hid (Below.step B2.out B2.out.size hb3)
        have NX := Lib.hid (hnx w3 (Below.refl _ _))
        clear hb3 hnx
        go_wp2_with fail
        refine NX.out.mono ?_
        rintro e w4 ⟨rfl, hb4⟩
        have B4 := Lib.hid (Below.step B3.out B3.out.size hb4)
        clear hb4
        simp only [tmN]
        go_wp2
        go_ret2
        exact ⟨rfl, B4.out⟩
    · have hm' : okM m = false := by simpa using hm
      have HM := Lib.hid hm'
      rw [R_Steps_no2 hm']
      clear ho hd hm hm'
      go_enter Try.func25, Try.ntmps25
      go_wp2_with fail
      refine (long_yes _ _ _ _ _ H.out hl HO.out).mono ?_
      rintro e w1 ⟨g1, cap1, rfl, hr, hb1⟩
      have B1 := Lib.hid hb1
      clear hr hb1
      go_wp2_with fail
      refine (areTimes_any _ _).mono ?_
      rw [HM.out]
      rintro e w2 ⟨rfl, rfl⟩
      go_wp2
      go_ret2
      exact ⟨rfl, Below.step B1.out B1.out.size (alloc_below w1 _)⟩
  · have HO := Lib.hid ho
    rw [R_Steps_no1 ho]
    clear ho
    go_enter Try.func25, Try.ntmps25
    go_wp2_with fail
    refine (long_no _ _ _ _ _ H.out hl HO.out).mono ?_
    rintro e w1 ⟨rfl, hb1⟩
    have B1 := Lib.hid hb1
    clear hb1
    go_wp2
    go_ret2
    exact ⟨rfl, Below.step B1.out B1.out.size (alloc_below w1 _)⟩

theorem spec_StepsToSymmetric (v : Value) (xs : List Int) (b m : Int) (B : Nat) (w : World) (h : Rd w B v xs) (hl : xs.length ≤ 1048576) :
    Calls Try.prog 26 #[v, .int .i64 b, .int .i64 m] w fun e w' => e = .returned (VAL_StepsToSymmetric xs b m) ∧ Below w.heap.size w w' := by
  have H := Lib.hid h
  obtain ⟨a, cap, rfl⟩ := h.sl.len
  clear h
  unfold VAL_StepsToSymmetric
  rcases okR_cases b xs with ⟨ho, hd⟩ | ho
  · have HO := Lib.hid ho
    have HD := Lib.hid hd
    by_cases hm : okM m = true
    · have HM := Lib.hid hm
      have hR := R_Steps_yes ho hm
      obtain ⟨k, rfl, hk⟩ := okM_nat hm
      rw [Int.toNat_natCast] at hR
      obtain ⟨T, hT⟩ : ∃ T, T = rvT b k xs := ⟨_, rfl⟩
      have HRT := Lib.hid (fun w' (h : Rd w' B (.slice a xs.length cap) xs) => rvSteps_any _ xs b k B w' h hd hk)
      rw [← hT] at HRT hR
      rw [hR]
      clear hT hR ho hd hm
      go_enter Try.func26, Try.ntmps26
      go_wp2_with (first
        | (go_at_call 45; go_loud (refine (rvGood_any _ _ _ _ _ H.out hl).mono ?_; rw [HO.out]; rintro e w1 ⟨rfl, rfl⟩))
        | (go_at_call 63; go_loud (refine (rvMost_any _ _).mono ?_; rw [HM.out]; rintro e w1 ⟨rfl, rfl⟩))
        | (go_at_call 66; go_loud (refine (HRT.out _ H.out).mono ?_; rintro e w1 ⟨rfl, hb1⟩; have B1 := Lib.hid hb1; clear hb1)))
      go_ret2
      exact ⟨rfl, B1.out⟩
    · have hm' : okM m = false := by simpa using hm
      have HM := Lib.hid hm'
      rw [R_Steps_no2 hm']
      clear ho hd hm hm'
      go_enter Try.func26, Try.ntmps26
      go_wp2_with (first
        | (go_at_call 45; go_loud (refine (rvGood_any _ _ _ _ _ H.out hl).mono ?_; rw [HO.out]; rintro e w1 ⟨rfl, rfl⟩))
        | (go_at_call 63; go_loud (refine (rvMost_any _ _).mono ?_; rw [HM.out]; rintro e w1 ⟨rfl, rfl⟩)))
      go_ret2
      exact ⟨rfl, Below.refl _ _⟩
  · have HO := Lib.hid ho
    rw [R_Steps_no1 ho]
    clear ho
    go_enter Try.func26, Try.ntmps26
    go_wp2_with (go_at_call 45; go_loud (refine (rvGood_any _ _ _ _ _ H.out hl).mono ?_; rw [HO.out]; rintro e w1 ⟨rfl, rfl⟩))
    go_ret2
    exact ⟨rfl, Below.refl _ _⟩

end Go.Proofs.Ytnggfcopndcppaa

/- from XT1 -/
namespace Go.Proofs.Ytnggfcopndcppaa
open Go.RowKit
set_option linter.unusedVariables false
set_option linter.unusedSimpArgs false
set_option maxRecDepth 100000

theorem powerOfBase_any (b : Int) (n : Nat) (w : World) (hb : 2 ≤ b) (hb' : b ≤ 16) (hn : n ≤ 13) :
    Calls Try.prog 100 #[.int .i64 b, .int .i64 (n : Int)] w fun e w' => e = .returned (.int .i64 (b ^ n)) ∧ w = w' := by
  go_enter Try.func100, Try.ntmps100
  go_wp2
  go_loop [5, 7] (fun p i => ∃ k : Nat, k ≤ n ∧ i = .int .i64 (k : Int) ∧ p = .int .i64 (b ^ k)) (fun _ i => n - (intOf i).toNat)
  case atStart => exact ⟨0, Nat.zero_le _, rfl, by simp⟩
  case round =>
    obtain ⟨k, hk, rfl, rfl⟩ := hrel
    by_cases hlt : k < n
    · obtain ⟨p1, p2⟩ := pw_bd b hb hb' (k + 1) (by omega)
      obtain ⟨q1, q2⟩ := pw_bd b hb hb' k (by omega)
      have HS := Lib.hid (Int.pow_succ b k)
      rw [HS.out] at p1 p2
      obtain ⟨q, hq⟩ : ∃ q, q = b ^ k := ⟨_, rfl⟩
      have HQ := Lib.hid hq
      rw [← hq] at p1 p2 q1 q2
      rw [← hq]
      clear hq
      go_wp2
      go_round
      case rel => exact ⟨k + 1, by omega, by go_num, by rw [HS.out, ← HQ.out] <;> first | rfl | go_num⟩
      case measure => simp [intOf]; omega
    · obtain rfl : k = n := by omega
      go_wp2
      go_ret
      exact ⟨rfl, rfl⟩

theorem leastOfWidth_any (b : Int) (V : Nat) (w : World) (hb : 2 ≤ b) (hb' : b ≤ 16) (hv : 1 ≤ V) (hv' : V ≤ 14) :
    Calls Try.prog 78 #[.int .i64 (V : Int), .int .i64 b] w fun e w' => e = .returned (.int .i64 (b ^ (V - 1))) ∧ w = w' := by
  have hV : ((V : Int) - 1) = ((V - 1 : Nat) : Int) := by omega
  have HP := Lib.hid (fun w => powerOfBase_any b (V - 1) w hb hb' (by omega))
  obtain ⟨P, hP⟩ : ∃ P, P = b ^ (V - 1) := ⟨_, rfl⟩
  obtain ⟨U, hU⟩ : ∃ U, U = V - 1 := ⟨_, rfl⟩
  rw [← hP, ← hU] at HP
  rw [← hP]
  have hVU : V = U + 1 := by omega
  subst hVU
  clear hP hU hV
  have hw1 : IntKind.i64.wrap (((U + 1 : Nat) : Int) - 1) = (U : Int) := by rw [IntWalk.i64_in _ (by omega)]; omega
  go_enter Try.func78, Try.ntmps78
  go_wp2_with (go_at_call 100; go_loud (refine (HP.out _).mono ?_; rintro e w1 ⟨rfl, rfl⟩))
  go_ret
  exact ⟨rfl, rfl⟩

theorem okSp_no1 {V b : Int} (h : ¬ (2 ≤ b ∧ b ≤ 16)) : okSp V b = false := by unfold okSp; rw [decide_eq_false h]; rfl
theorem okSp_no2 {V b : Int} (h : ¬ (1 ≤ V ∧ V ≤ 14)) : okSp V b = false := by unfold okSp; rw [decide_eq_false h]; simp
theorem okSp_is {V : Nat} {b : Int} (h1 : 2 ≤ b ∧ b ≤ 16) (h2 : 1 ≤ V ∧ V ≤ 14) : okSp (V : Int) b = decide ((b - 1) * b ^ (V - 1) ≤ 20000) := by
  unfold okSp
  rw [decide_eq_true h1, decide_eq_true (show 1 ≤ (V : Int) ∧ (V : Int) ≤ 14 by omega), Int.toNat_natCast]
  rfl

theorem isSpreadWidth_any (V b : Int) (w : World) : Calls Try.prog 73 #[.int .i64 V, .int .i64 b] w fun e w' => e = .returned (.bool (okSp V b)) ∧ w = w' := by
  by_cases hb : 2 ≤ b ∧ b ≤ 16
  · have HB := Lib.hid (show decide (Bas b) = true from decide_eq_true (p := Bas b) hb)
    by_cases hV : 1 ≤ V ∧ V ≤ 14
    · obtain ⟨U, rfl⟩ : ∃ U : Nat, V = (U : Int) := ⟨V.toNat, by omega⟩
      have HO := Lib.hid (okSp_is (V := U) hb (by omega))
      rw [HO.out]
      obtain ⟨b2, b16⟩ := hb
      obtain ⟨v1, v2⟩ := hV
      have HL := Lib.hid (fun w => leastOfWidth_any b U w b2 b16 (by omega) (by omega))
      obtain ⟨P, hP⟩ : ∃ P, P = b ^ (U - 1) := ⟨_, rfl⟩
      obtain ⟨p1, p2⟩ := pw_bd b b2 b16 (U - 1) (by omega)
      rw [← hP] at HL p1 p2
      rw [← hP]
      have m1 : 0 ≤ (b - 1) * P := Int.mul_nonneg (by omega) (by omega)
      have m2 : (b - 1) * P ≤ 15 * 72057594037927936 := Int.mul_le_mul (by omega) p2 (by omega) (by omega)
      clear hP
      go_enter Try.func73, Try.ntmps73
      go_wp2_with (first
        | (go_at_call 89; go_loud (refine (isBase_any _ _).mono ?_; rw [HB.out]; rintro e w1 ⟨rfl, rfl⟩))
        | (go_at_call 78; go_loud (refine (HL.out _).mono ?_; rintro e w1 ⟨rfl, rfl⟩)))
      go_ret
      exact ⟨rfl, rfl⟩
    · have HO := Lib.hid (okSp_no2 (b := b) hV)
      rw [HO.out]
      by_cases h1 : V < 1
      · clear hV hb
        go_enter Try.func73, Try.ntmps73
        go_wp2_with (go_at_call 89; go_loud (refine (isBase_any _ _).mono ?_; rw [HB.out]; rintro e w1 ⟨rfl, rfl⟩))
        go_ret
        exact ⟨rfl, rfl⟩
      · have h2 : 14 < V := by omega
        clear hV hb
        go_enter Try.func73, Try.ntmps73
        go_wp2_with (go_at_call 89; go_loud (refine (isBase_any _ _).mono ?_; rw [HB.out]; rintro e w1 ⟨rfl, rfl⟩))
        go_ret
        exact ⟨rfl, rfl⟩
  · have HB := Lib.hid (show decide (Bas b) = false from decide_eq_false (p := Bas b) hb)
    have HO := Lib.hid (okSp_no1 (V := V) hb)
    rw [HO.out]
    clear hb
    go_enter Try.func73, Try.ntmps73
    go_wp2_with (go_at_call 89; go_loud (refine (isBase_any _ _).mono ?_; rw [HB.out]; rintro e w1 ⟨rfl, rfl⟩))
    go_ret
    exact ⟨rfl, rfl⟩

theorem rvFrom_yes (V : Nat) (b : Int) (w : World) (h : Sp V b) :
    Calls Try.prog 75 #[.int .i64 (V : Int), .int .i64 b] w fun e w' => e = .returned (.tuple #[.int .i64 (b ^ (V - 1)), .int .i64 (cnN V b : Int)]) ∧ w = w' := by
  have HB := Lib.hid (show decide (Bas b) = true from decide_eq_true (p := Bas b) ⟨h.b2, h.b16⟩)
  have hb2 := h.b2
  have hb16 := h.b16
  have v1 : (1:Int) ≤ (V : Int) := by have := h.v1; omega
  have v2 : (V : Int) ≤ 14 := by have := h.v14; omega
  have HC := Lib.hid h.cn.1
  obtain ⟨l1, l2⟩ := h.least
  have hle := h.le
  have HPB := Lib.hid (fun k (hk : k ≤ V - 1) => show 1 ≤ b ^ k ∧ b ^ k ≤ b ^ (V - 1) from ⟨pw_pos b hb2 k, by
    have h1 : ∀ j, b ^ k ≤ b ^ (k + j) := by
      intro j
      induction j with
      | zero => exact Int.le_refl _
      | succ j ih =>
        rw [← Nat.add_assoc, Int.pow_succ]
        have hp := pw_pos b hb2 (k + j)
        have : b ^ (k + j) * 1 ≤ b ^ (k + j) * b := Int.mul_le_mul_of_nonneg_left (by omega) (by omega)
        omega
    have := h1 (V - 1 - k)
    rwa [show k + (V - 1 - k) = V - 1 by omega] at this⟩)
  clear h
  go_enter Try.func75, Try.ntmps75
  go_wp2_with (first
    | (go_at_call 93; go_loud (refine (dgBase_any _ _).mono ?_; rw [HB.out]; rintro e w1 ⟨rfl, rfl⟩))
    | (go_at_call 82; go_loud (refine (l1In_yes _ _ _ _ v1 v2).mono ?_; rintro e w1 ⟨rfl, rfl⟩)))
  go_loop [6, 7] (fun f i => ∃ k : Nat, k ≤ V - 1 ∧ i = .int .i64 ((k : Int) + 1) ∧ f = .int .i64 (b ^ k)) (fun _ i => V - (intOf i).toNat)
  case atStart => exact ⟨0, Nat.zero_le _, rfl, by simp⟩
  case round =>
    obtain ⟨k, hk, rfl, rfl⟩ := hrel
    by_cases hlt : k + 1 < V
    · have hp := HPB.out (k + 1) (by omega)
      have hq := HPB.out k (by omega)
      have HS := Lib.hid (Int.pow_succ b k)
      rw [HS.out] at hp
      obtain ⟨q, hqq⟩ : ∃ q, q = b ^ k := ⟨_, rfl⟩
      have HQ := Lib.hid hqq
      rw [← hqq] at hp hq
      rw [← hqq]
      obtain ⟨p1, p2⟩ := hp
      obtain ⟨q1, q2⟩ := hq
      have hltI : (k : Int) + 1 < (V : Int) := by omega
      have hn2 : ¬ 20000 < q * b := by omega
      clear hqq
      go_wp2
      go_round
      case rel => exact ⟨k + 1, by omega, by go_num, by rw [HS.out, ← HQ.out] <;> first | rfl | go_num⟩
      case measure => simp [intOf]; omega
    · obtain rfl : k = V - 1 := by omega
      obtain ⟨P, hP⟩ : ∃ P, P = b ^ (V - 1) := ⟨_, rfl⟩
      rw [← hP] at l1 l2 hle HC
      rw [← hP]
      have hltI : ¬ ((V - 1 : Nat) : Int) + 1 < (V : Int) := by omega
      have HMC := Lib.hid (show P * (b - 1) = (cnN V b : Int) by rw [HC.out, Int.mul_comm])
      have hm1 : P * (b - 1) ≤ 20000 := by rw [Int.mul_comm]; exact hle
      have hm0 : 0 ≤ P * (b - 1) := Int.mul_nonneg (by omega) (by omega)
      have HPP := Lib.hid hP
      clear hP HPB hlt hk
      go_wp2
      go_ret2
      exact ⟨by rw [← HPP.out, ← HMC.out]; rfl, rfl⟩

theorem rvFrom_no (V b : Int) (w : World) (h : okSp V b = false) :
    Calls Try.prog 75 #[.int .i64 V, .int .i64 b] w fun e w' => e = .returned (.tuple #[.int .i64 0, .int .i64 0]) ∧ w = w' := by
  by_cases hb : 2 ≤ b ∧ b ≤ 16
  · have HB := Lib.hid (show decide (Bas b) = true from decide_eq_true (p := Bas b) hb)
    by_cases hV : 1 ≤ V ∧ V ≤ 14
    · obtain ⟨U, rfl⟩ : ∃ U : Nat, V = (U : Int) := ⟨V.toNat, by omega⟩
      rw [okSp_is (V := U) hb (by omega)] at h
      have hbig := of_decide_eq_false h
      obtain ⟨b2, b16⟩ := hb
      obtain ⟨v1, v2⟩ := hV
      have HBIG := Lib.hid (show ¬ b ^ (U - 1) * (b - 1) ≤ 20000 by rw [Int.mul_comm]; exact hbig)
      clear h hbig
      go_enter Try.func75, Try.ntmps75
      go_wp2_with (first
        | (go_at_call 93; go_loud (refine (dgBase_any _ _).mono ?_; rw [HB.out]; rintro e w1 ⟨rfl, rfl⟩))
        | (go_at_call 82; go_loud (refine (l1In_yes _ _ _ _ v1 v2).mono ?_; rintro e w1 ⟨rfl, rfl⟩)))
      go_loop [6, 7] (fun f i => ∃ k : Nat, k ≤ U - 1 ∧ i = .int .i64 ((k : Int) + 1) ∧ f = .int .i64 (b ^ k) ∧ b ^ k ≤ 20000) (fun _ i => U - (intOf i).toNat)
      case atStart => exact ⟨0, Nat.zero_le _, rfl, by simp, by simp⟩
      case round =>
        obtain ⟨k, hk, rfl, rfl, hle⟩ := hrel
        have hp0 := pw_pos b b2 k
        by_cases hlt : k + 1 < U
        · have HS := Lib.hid (Int.pow_succ b k)
          obtain ⟨q, hqq⟩ : ∃ q, q = b ^ k := ⟨_, rfl⟩
          have HQ := Lib.hid hqq
          rw [← hqq] at hle hp0
          rw [← hqq]
          have m0 : 0 ≤ q * b := Int.mul_nonneg (by omega) (by omega)
          have m1 : q * b ≤ 20000 * 16 := Int.mul_le_mul hle b16 (by omega) (by omega)
          have hltI : (k : Int) + 1 < (U : Int) := by omega
          clear hqq
          by_cases hbg : 20000 < q * b
          · go_wp2
            go_ret2
            exact ⟨rfl, rfl⟩
          · go_wp2
            go_round
            case rel => exact ⟨k + 1, by omega, by go_num, by rw [HS.out, ← HQ.out] <;> first | rfl | go_num, by rw [HS.out, ← HQ.out]; omega⟩
            case measure => simp [intOf]; omega
        · obtain rfl : k = U - 1 := by omega
          obtain ⟨P, hP⟩ : ∃ P, P = b ^ (U - 1) := ⟨_, rfl⟩
          rw [← hP] at HBIG hle hp0
          rw [← hP]
          have hltI : ¬ ((U - 1 : Nat) : Int) + 1 < (U : Int) := by omega
          have hbg : 20000 < P * (b - 1) := by have := HBIG.out; omega
          have m1 : P * (b - 1) ≤ 20000 * 16 := Int.mul_le_mul hle (by omega) (by omega) (by omega)
          clear hP hlt hk
          go_wp2
          go_ret2
          exact ⟨rfl, rfl⟩
    · have HV := Lib.hid (show V < 1 ∨ 14 < V by omega)
      clear hV hb h
      go_enter Try.func75, Try.ntmps75
      go_wp2_with (first
        | (go_at_call 93; go_loud (refine (dgBase_any _ _).mono ?_; rw [HB.out]; rintro e w1 ⟨rfl, rfl⟩))
        | (go_at_call 82; go_loud (refine (l1In_no _ _ _ _ HV.out).mono ?_; rintro e w1 ⟨rfl, rfl⟩)))
      go_ret2
      exact ⟨rfl, rfl⟩
  · have HB := Lib.hid (show decide (Bas b) = false from decide_eq_false (p := Bas b) hb)
    clear hb h
    go_enter Try.func75, Try.ntmps75
    go_wp2_with (go_at_call 93; go_loud (refine (dgBase_any _ _).mono ?_; rw [HB.out]; rintro e w1 ⟨rfl, rfl⟩))
    go_ret2
    exact ⟨rfl, rfl⟩

end Go.Proofs.Ytnggfcopndcppaa

/- from XT2 -/
namespace Go.Proofs.Ytnggfcopndcppaa
open Go.RowKit
set_option linter.unusedVariables false
set_option linter.unusedSimpArgs false
set_option maxRecDepth 100000

theorem tmN_tmZ (V : Nat) (b : Int) (m i : Nat) : tmN (rvT b m (dgs b (b ^ (V - 1) + (i : Int)))) = tmZ V b m i := rfl

/-- How long the first n numbers of a width take. -/
def tzl (V : Nat) (b : Int) (m n : Nat) : List Int := (List.range n).map (tmZ V b m)
theorem tzl_len (V : Nat) (b : Int) (m n : Nat) : (tzl V b m n).length = n := by simp [tzl]
theorem tzl_succ (V : Nat) (b : Int) (m n : Nat) : tzl V b m (n + 1) = tzl V b m n ++ [tmZ V b m n] := by simp [tzl, List.range_succ]
theorem tzl_at (V : Nat) (b : Int) (m n j : Nat) (h : j < (tzl V b m n).length) : (tzl V b m n)[j] = tmZ V b m j := by simp [tzl]

theorem fillk (n k : Nat) (cs : List Int) (d : Int) (hd : cs.length = k) (hk : k < n) : (cs ++ List.replicate (n - k) (0 : Int)).set k d = (cs ++ [d]) ++ List.replicate (n - (k + 1)) 0 := frontfill n k cs d hd hk

theorem timesOfWidth_any (V : Nat) (b : Int) (m : Nat) (w : World) (hs : Sp V b) (hm : m ≤ 100) :
    Calls Try.prog 74 #[.int .i64 (V : Int), .int .i64 b, .int .i64 (m : Int)] w fun e w' => ∃ g, e = .returned (.slice (some ⟨g, 0, none⟩) (cnN V b) (cnN V b)) ∧ Rd w' w.heap.size (.slice (some ⟨g, 0, none⟩) (cnN V b) (cnN V b)) (tzl V b m (cnN V b)) ∧ Below w.heap.size w w' := by
  have HS := Lib.hid hs
  have hb2 := hs.b2
  have hb16 := hs.b16
  obtain ⟨c1, c2, c3⟩ := hs.cn
  obtain ⟨l1, l2⟩ := hs.least
  have HLE := Lib.hid (fun w => leastOfWidth_any b V w hb2 hb16 hs.v1 hs.v14)
  have HRT := Lib.hid (fun (i g cap : Nat) (w' : World) (h : Rd w' w.heap.size (.slice (some ⟨g, 0, none⟩) (dgs b (b ^ (V - 1) + (i : Int))).length cap) (dgs b (b ^ (V - 1) + (i : Int)))) (hD : w.heap.size ≤ w'.heap.size) (hi : i < 20000) =>
    runTimes_any g cap (dgs b (b ^ (V - 1) + (i : Int))) b m w.heap.size w' h hD (dgs_Dg b _ hb2 hb16 (by omega) (by omega)) hm)
  have HTZ := Lib.hid (fun i => tmN_tmZ V b m i)
  obtain ⟨P, hP⟩ : ∃ P, P = b ^ (V - 1) := ⟨_, rfl⟩
  obtain ⟨N, hN⟩ : ∃ N, N = cnN V b := ⟨_, rfl⟩
  rw [← hP] at HLE HRT HTZ c1 l1 l2
  rw [← hN] at c1 c2 c3
  rw [← hN]
  have HC1 := Lib.hid c1
  have hmul : (b - 1) * P = (N : Int) := c1.symm
  have HB := Lib.hid (Below.refl w.heap.size w)
  clear hs hP hN c1
  go_enter Try.func74, Try.ntmps74
  go_wp2_with (first
    | (go_at_call 78; go_loud (refine (HLE.out _).mono ?_; rintro e w1 ⟨rfl, rfl⟩))
    | (at_make; go_loud (refine wpList_mkR rfl _ _ rfl .i64 .i64 _ _ N rfl rfl (by have := HC1.out; go_num) (by have := HC1.out; go_num) (by omega) ?_; intro w1 hr1 hg1 hb1; have R1 := Lib.hid hr1; have B1 := Lib.hid hb1; clear hr1 hg1 hb1)))
  clear hmul
  go_loopw [21] (fun i wr => ∃ k : Nat, k ≤ N ∧ i = .int .i64 (k : Int) ∧ Rd wr w.heap.size (.slice (some ⟨w.heap.size, 0, none⟩) N N) (tzl V b m k ++ List.replicate (N - k) 0) ∧ Below w.heap.size w wr) (fun i _ => N - (intOf i).toNat)
  case atStart => exact ⟨0, Nat.zero_le _, rfl, by simpa [tzl] using R1.out, B1.out⟩
  case round =>
    obtain ⟨k, hk, rfl, hr, hb⟩ := hrel
    have HR := Lib.hid hr
    have HBR := Lib.hid hb
    clear hr hb
    by_cases hlt : k < N
    · have HTK := Lib.hid (HTZ.out k)
      obtain ⟨t, ht⟩ : ∃ t, t = tmZ V b m k := ⟨_, rfl⟩
      have HT := Lib.hid ht
      rw [← ht] at HTK
      clear ht
      go_wp2_with fail
      refine (digits_any (P + (k : Int)) b _ (by omega) (by omega) hb2 hb16).mono ?_
      rintro e w2 ⟨g2, cap2, rfl, hr2, hb2'⟩
      have HR2 := Lib.hid (HR.out.keep hb2')
      have B2 := Lib.hid (Below.step HBR.out HBR.out.size hb2')
      have D2 := Lib.hid (hr2.mono HBR.out.size)
      have HAL := Lib.hid (alloc_below w2 (.cells #[.slice (some ⟨g2, 0, none⟩) (dgs b (P + (k : Int))).length cap2, .int .i64 b] 56))
      have HR3 := Lib.hid (HR2.out.keep HAL.out)
      have B3 := Lib.hid (Below.step B2.out B2.out.size HAL.out)
      have D3 := Lib.hid (D2.out.keep HAL.out)
      have hk2 : k < 20000 := by omega
      clear hr2 hb2'
      go_wp2_with fail
      refine (HRT.out k g2 cap2 _ D3.out B3.out.size hk2).mono ?_
      rintro e w4 ⟨g', c', al, n, cl, rfl, hb4, ⟨gg, mm, rfl⟩, hnx⟩
      have B4 := Lib.hid (Below.step B3.out B3.out.size hb4)
      have HR4 := Lib.hid (HR3.out.keep hb4)
      have NX := Lib.hid (hnx w4 (Below.refl _ _))
      clear hb4 hnx
      go_wp2_with fail
      refine NX.out.mono ?_
      rw [HTK.out]
      rintro e w5 ⟨rfl, hb5⟩
      have B5 := Lib.hid (Below.step B4.out B4.out.size hb5)
      have HR5 := Lib.hid (HR4.out.keep hb5)
      have hl5 : (tzl V b m k ++ List.replicate (N - k) (0 : Int)).length = N := by rw [List.length_append, tzl_len, List.length_replicate]; omega
      obtain ⟨q, hq⟩ : ∃ q, w5.cell? ⟨w.heap.size, k, none⟩ = some (.int .i64 q) := ⟨_, HR5.out.at.2.2.2.2.1 k (by rw [hl5]; exact hlt)⟩
      have hf := HR5.out.at.2.2.2.2.2 k
      clear hb5 hl5
      go_wp2
      go_roundw
      case rel =>
        have h1 := HR5.out.set k t
        rw [fillk N k _ _ (tzl_len V b m k) hlt, HT.out, ← tzl_succ] at h1
        rw [HT.out]
        exact ⟨k + 1, by omega, by go_num, h1.1, B5.out.setCell (Nat.le_refl _) _⟩
      case measure => simp [intOf]; omega
    · obtain rfl : k = N := by omega
      go_wp2
      go_ret
      exact ⟨w.heap.size, rfl, by have := HR.out; rwa [Nat.sub_self, List.replicate_zero, List.append_nil] at this, HBR.out⟩

/-- What StepsSpread answers. -/
def okSS (V b m : Int) : Bool := okSp V b && okM m
abbrev OK_StepsSpread (V b m : Int) : Bool := okSS V b m
def LF_StepsSpread (V b m : Int) : List Int := if okSS V b m = true then sprN V.toNat b m.toNat (cnN V.toNat b) else []
theorem okSS_yes {V b m : Int} (h1 : okSp V b = true) (h2 : okM m = true) : okSS V b m = true := by unfold okSS; rw [h1, h2]; rfl
theorem okSS_no1 {V b m : Int} (h1 : okSp V b = false) : okSS V b m = false := by unfold okSS; rw [h1]; rfl
theorem okSS_no2 {V b m : Int} (h1 : okM m = false) : okSS V b m = false := by unfold okSS; rw [h1]; simp
theorem LFS_yes {V b m : Int} (h : okSS V b m = true) : LF_StepsSpread V b m = sprN V.toNat b m.toNat (cnN V.toNat b) := if_pos h
theorem LFS_no {V b m : Int} (h : okSS V b m = false) : LF_StepsSpread V b m = [] := if_neg (by rw [h]; simp)

theorem tmZ_cases (V : Nat) (b : Int) (m i : Nat) : (tmZ V b m i = -1 ∧ ixT m (tmW V b m i) = m + 1) ∨ (∃ k : Nat, tmZ V b m i = (k : Int) ∧ ixT m (tmW V b m i) = k ∧ k ≤ m) := by
  unfold tmZ
  cases h : tmW V b m i with
  | none => exact .inl ⟨rfl, rfl⟩
  | some k => exact .inr ⟨k, rfl, rfl, rvT_le h⟩

theorem impl_StepsSpread (V b m : Int) (w : World) :
    Calls Try.prog 29 #[.int .i64 V, .int .i64 b, .int .i64 m] w fun e w' => ∃ u, e = .returned (.tuple #[u, .bool (OK_StepsSpread V b m)]) ∧ Rd w' w.heap.size u (LF_StepsSpread V b m) ∧ Below w.heap.size w w' := by
  unfold OK_StepsSpread
  by_cases ho : okSp V b = true
  · have HO := Lib.hid ho
    by_cases hm : okM m = true
    · have HM := Lib.hid hm
      have ha := okSS_yes ho hm
      rw [LFS_yes ha, ha]
      obtain ⟨U, rfl, hs⟩ := okSp_sp ho
      obtain ⟨k, rfl, hk⟩ := okM_nat hm
      rw [Int.toNat_natCast, Int.toNat_natCast]
      have HTW := Lib.hid (fun w => timesOfWidth_any U b k w hs hk)
      have HNB := Lib.hid hs.cn
      clear ho hm ha hs
      obtain ⟨M, hM⟩ : ∃ M, M = k + 2 := ⟨_, rfl⟩
      obtain ⟨L, hL⟩ : ∃ L, L = sprN U b k (cnN U b) := ⟨_, rfl⟩
      have HMM := Lib.hid hM
      have HLL := Lib.hid hL
      have hM2 : M ≤ 102 := by omega
      have HMI := Lib.hid (show (k : Int) + 2 = (M : Int) by omega)
      rw [← hL]
      clear hM hL
      go_enter Try.func29, Try.ntmps29
      go_wp2_with (first
        | (go_at_call 73; go_loud (refine (isSpreadWidth_any _ _ _).mono ?_; rw [HO.out]; rintro e w1 ⟨rfl, rfl⟩))
        | (go_at_call 60; go_loud (refine (areTimes_any _ _).mono ?_; rw [HM.out]; rintro e w1 ⟨rfl, rfl⟩))
        | (at_make; go_loud (refine wpList_mkR rfl _ _ rfl .i64 .i64 _ _ M rfl rfl (by have h := HMI.out; first | exact h | go_num) (by have h := HMI.out; first | exact h | go_num) (by omega) ?_; intro w1 hr1 hg1 hb1; have R1 := Lib.hid hr1; have B1 := Lib.hid hb1; clear hr1 hg1 hb1)))
      refine (HTW.out _).mono ?_
      rintro e w2 ⟨g2, rfl, hr2, hb2⟩
      obtain ⟨N, hN⟩ : ∃ N, N = cnN U b := ⟨_, rfl⟩
      rw [← hN] at hr2 HNB HLL
      rw [← hN]
      have hN2 : N ≤ 20000 := HNB.out.2.2
      have HT2 := Lib.hid hr2
      have B2 := Lib.hid (Below.step B1.out B1.out.size hb2)
      have R2 := Lib.hid (R1.out.keep hb2)
      have HLT := Lib.hid (R1.out.at.2.2.1)
      have HGE := Lib.hid (hr2.lt g2 rfl)
      have HR0 := Lib.hid (show List.replicate M (0:Int) = sprN U b k 0 by rw [HMM.out]; rfl)
      clear hN hr2 hb2
      go_wp2
      go_loopw [28] (fun i wr => ∃ j : Nat, j ≤ N ∧ i = .int .i64 (j : Int) ∧ Rd wr w.heap.size (.slice (some ⟨w.heap.size, 0, none⟩) M M) (sprN U b k j) ∧ Rd wr w.heap.size (.slice (some ⟨g2, 0, none⟩) N N) (tzl U b k N) ∧ Below w.heap.size w wr) (fun i _ => N - (intOf i).toNat)
      case atStart => exact ⟨0, Nat.zero_le _, rfl, by rw [← HR0.out]; exact R2.out, HT2.out.mono B1.out.size, B2.out⟩
      case round =>
        obtain ⟨j, hj, rfl, hr, ht, hb⟩ := hrel
        have HR := Lib.hid hr
        have HT := Lib.hid ht
        have HB := Lib.hid hb
        clear hr ht hb
        by_cases hlt : j < N
        · have hcell : wr.cell? ⟨g2, j, none⟩ = some (.int .i64 (tmZ U b k j)) := by
            rw [HT.out.at.2.2.2.2.1 j (by rw [tzl_len]; exact hlt), tzl_at]
          have HTC := Lib.hid (tmZ_cases U b k j)
          have HIX := Lib.hid (ixT_lt U b k j)
          obtain ⟨x, hx⟩ : ∃ x, x = ixT k (tmW U b k j) := ⟨_, rfl⟩
          obtain ⟨z, hz⟩ : ∃ z, z = tmZ U b k j := ⟨_, rfl⟩
          have HX := Lib.hid hx
          rw [← hx] at HTC HIX
          rw [← hz] at HTC hcell
          have hxM : x < M := by have := HIX.out; have := HMM.out; omega
          have hlen := sprN_len U b k j
          have hq0 : wr.cell? ⟨w.heap.size, x, none⟩ = some (.int .i64 ((sprN U b k j).getD x 0)) := by
            rw [HR.out.at.2.2.2.2.1 x (by rw [hlen]; have := HMM.out; omega), List.getD_eq_getElem?_getD, List.getElem?_eq_getElem (by rw [hlen]; have := HMM.out; omega)]; rfl
          have hqb := sprN_bd U b k j x
          have hfz := HR.out.at.2.2.2.2.2 x
          obtain ⟨q, hq⟩ : ∃ q, q = (sprN U b k j).getD x 0 := ⟨_, rfl⟩
          have HQ := Lib.hid hq
          rw [← hq] at hq0 hqb
          obtain ⟨q1, q2⟩ := hqb
          have HST := Lib.hid (show (sprN U b k j).set x (q + 1) = sprN U b k (j + 1) by rw [hq, hx]; rfl)
          have HRS := Lib.hid (HR.out.set x (q + 1))
          have HTS := Lib.hid (HT.out.grown HRS.out.2 (.inr (fun e => by have h1 := HGE.out.1; have h2 := HLT.out; simp [Value.ownBlock] at e; omega)))
          have HBS := Lib.hid (HB.out.setCell (p := ⟨w.heap.size, x, none⟩) (Nat.le_refl _) (.int .i64 (q + 1)))
          clear hx hz hlen hq
          rcases HTC.out with ⟨h1, h2⟩ | ⟨t, h1, h2, h3⟩
          · subst h1
            have hx1 : (k : Int) + 1 = (x : Int) := by omega
            have HX1 := Lib.hid hx1
            have hwx : IntKind.i64.wrap ((k : Int) + 1) = (x : Int) := by rw [IntWalk.i64_in _ (by omega)]; omega
            have hwx2 : wrap64 ((k : Int) + 1) = (x : Int) := by rw [IntWalk.wrap64_in _ (by omega)]; omega
            clear hx1 h2
            go_wp2
            go_roundw
            case rel => exact ⟨j + 1, by omega, by go_num, by rw [← HST.out]; exact HRS.out.1, HTS.out, HBS.out⟩
            case measure => simp [intOf]; omega
          · subst h2
            subst h1
            have hne : ((x : Int) == -1) = false := beq_no (by omega)
            clear h3
            go_wp2
            go_roundw
            case rel => exact ⟨j + 1, by omega, by go_num, by rw [← HST.out]; exact HRS.out.1, HTS.out, HBS.out⟩
            case measure => simp [intOf]; omega
        · obtain rfl : j = N := by omega
          go_wp2
          go_ret2
          exact ⟨_, rfl, by rw [HLL.out]; exact HR.out, HB.out⟩
    · have hm' : okM m = false := by simpa using hm
      have HM := Lib.hid hm'
      rw [LFS_no (okSS_no2 hm'), okSS_no2 hm']
      clear ho hm hm'
      go_enter Try.func29, Try.ntmps29
      go_wp2_with (first
        | (go_at_call 73; go_loud (refine (isSpreadWidth_any _ _ _).mono ?_; rw [HO.out]; rintro e w1 ⟨rfl, rfl⟩))
        | (go_at_call 60; go_loud (refine (areTimes_any _ _).mono ?_; rw [HM.out]; rintro e w1 ⟨rfl, rfl⟩)))
      go_ret2
      exact ⟨_, rfl, Rd.nil _ _, Below.refl _ _⟩
  · have ho' : okSp V b = false := by simpa using ho
    have HO := Lib.hid ho'
    rw [LFS_no (okSS_no1 ho'), okSS_no1 ho']
    clear ho ho'
    go_enter Try.func29, Try.ntmps29
    go_wp2_with (go_at_call 73; go_loud (refine (isSpreadWidth_any _ _ _).mono ?_; rw [HO.out]; rintro e w1 ⟨rfl, rfl⟩))
    go_ret2
    exact ⟨_, rfl, Rd.nil _ _, Below.refl _ _⟩

end Go.Proofs.Ytnggfcopndcppaa
