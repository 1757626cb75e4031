/-
  Joint text of MG MH MJ MK (written by wip/tools/merge.py).
-/
import Derived.Test.YtadjjmlneghklaaJU
import Derived.Test.YtadjjmlneghklaaKF
import Derived.Test.YtadjjmlneghklaaKB
/- from XMG -/
namespace Go.Proofs.Ytadjjmlneghklaa
set_option linter.unusedVariables false
set_option linter.unusedSimpArgs false
set_option maxRecDepth 100000

theorem ndr_lex : ∀ (k m : Nat), (ndr k m).Pairwise (fun g h => lexB g h = true)
  | 0, _ => by simp [ndr]
  | k + 1, m => by
    unfold ndr
    rw [List.pairwise_flatMap]
    refine ⟨fun x _ => ?_, ?_⟩
    · rw [List.pairwise_map]
      exact (ndr_lex k x).imp fun h => by simp [lexB, h]
    · exact List.pairwise_lt_range.imp fun {x y} hxy g hg h hh => by
        rw [List.mem_map] at hg hh
        obtain ⟨g', _, rfl⟩ := hg
        obtain ⟨h', _, rfl⟩ := hh
        have : ((x : Nat) : Int) < (y : Int) := by omega
        simp [lexB, this]

/-- The lists of gaps, how many they are, the values behind them, the words behind them, and the place of the gaps of these. -/
def gA (V M i : Nat) : List Int := (ndr (V / 2) M).getD i []
def nA (V M : Nat) : Nat := (ndr (V / 2) M).length
abbrev bA (M : Nat) : Int := ((M + 1 : Nat) : Int)
def uA (V M i : Nat) : Int := gv (bA M) V (gA V M i)
def wA (V M i : Nat) : List Int := wd (bA M) V (uA V M i)
def fA (V M i : Nat) : Nat := (ndr (V / 2) M).idxOf (gp (wA V M i))

theorem gA_get {V M i : Nat} (h : i < nA V M) : (ndr (V / 2) M)[i]? = some (gA V M i) := by
  unfold gA nA at *
  rw [List.getD_eq_getElem?_getD, List.getElem?_eq_getElem h]
  rfl
theorem gA_mem {V M i : Nat} (h : i < nA V M) : gA V M i ∈ ndr (V / 2) M := List.mem_of_getElem? (gA_get h)
theorem gA_of {V M i : Nat} (h : i < nA V M) : (gA V M i).length = V / 2 ∧ (∀ x ∈ gA V M i, 0 ≤ x ∧ x ≤ bA M - 1) ∧ (gA V M i).Pairwise (fun a b => b ≤ a) := by
  obtain ⟨h1, h2, h3⟩ := of_ndr (gA_mem h)
  exact ⟨h1, fun x hx => by have := h2 x hx; unfold bA; omega, h3⟩
theorem nA_bd {V M : Nat} (hV : V ≤ 8) (hM : M ≤ 15) : nA V M ≤ 3876 := ndr_bd (by omega) hM
theorem nA_pos (V M : Nat) : 1 ≤ nA V M := by
  unfold nA
  have h : List.replicate (V / 2) (0 : Int) ∈ ndr (V / 2) M := mem_ndr (by simp) (fun x hx => by rw [(List.mem_replicate.1 hx).2]; omega) (List.pairwise_replicate.2 (.inr (Int.le_refl _)))
  exact List.length_pos_of_mem h

theorem uA_bd {V M i : Nat} (h1 : 1 ≤ M) (h2 : M ≤ 15) (hV : V ≤ 8) (h : i < nA V M) : 0 ≤ uA V M i ∧ uA V M i < bA M ^ V :=
  gv_bd (by unfold bA; omega) (by unfold bA; omega) hV (gA_of h).2.1
theorem uA_lt {V M i j : Nat} (h1 : 1 ≤ M) (h2 : M ≤ 15) (hV : V ≤ 8) (hij : i < j) (h : j < nA V M) : uA V M i < uA V M j := by
  have hi := gA_of (show i < nA V M by omega)
  have hj := gA_of h
  refine gv_lex (by unfold bA; omega) (by unfold bA; omega) hV hi.2.1 hj.2.1 hi.1 hj.1 ?_
  have hp := List.pairwise_iff_getElem.1 (ndr_lex (V / 2) M) i j (by unfold nA at h; omega) h hij
  have e1 := gA_get (show i < nA V M by omega)
  have e2 := gA_get h
  rw [List.getElem?_eq_getElem (by unfold nA at h; omega)] at e1
  rw [List.getElem?_eq_getElem h] at e2
  simp only [Option.some.injEq] at e1 e2
  rw [← e1, ← e2]
  exact hp
theorem uA_inj {V M i j : Nat} (h1 : 1 ≤ M) (h2 : M ≤ 15) (hV : V ≤ 8) (hi : i < nA V M) (hj : j < nA V M) (h : uA V M i = uA V M j) : i = j := by
  by_cases a : i < j
  · have := uA_lt h1 h2 hV a hj; omega
  · by_cases c : j < i
    · have := uA_lt h1 h2 hV c hi; omega
    · omega
theorem uA_lt_iff {V M i j : Nat} (h1 : 1 ≤ M) (h2 : M ≤ 15) (hV : V ≤ 8) (hi : i < nA V M) (hj : j < nA V M) : uA V M i < uA V M j ↔ i < j := by
  constructor
  · intro h
    by_cases a : i < j
    · exact a
    · by_cases e : i = j
      · subst e; omega
      · have := uA_lt h1 h2 hV (show j < i by omega) hi; omega
  · intro h; exact uA_lt h1 h2 hV h hj
theorem wA_len (V M i : Nat) : (wA V M i).length = V := wd_len _ _ _
theorem wA_all {V M i : Nat} (h1 : 1 ≤ M) : ∀ x ∈ wA V M i, 0 ≤ x ∧ x ≤ bA M - 1 := wd_all (by unfold bA; omega) _ _
theorem vl_wA {V M i : Nat} (h1 : 1 ≤ M) (h2 : M ≤ 15) (hV : V ≤ 8) (h : i < nA V M) : vl (bA M) (wA V M i) = uA V M i := by
  obtain ⟨a, c⟩ := uA_bd h1 h2 hV h
  exact vl_wd (by unfold bA; omega) V _ a c
theorem wA_inj {V M i j : Nat} (h1 : 1 ≤ M) (h2 : M ≤ 15) (hV : V ≤ 8) (hi : i < nA V M) (hj : j < nA V M) (h : wA V M i = wA V M j) : i = j := by
  refine uA_inj h1 h2 hV hi hj ?_
  rw [← vl_wA h1 h2 hV hi, ← vl_wA h1 h2 hV hj, h]
theorem fA_mem {V M : Nat} (h1 : 1 ≤ M) (i : Nat) : gp (wA V M i) ∈ ndr (V / 2) M := gp_mem rfl (wA_len V M i) (wA_all h1)
theorem fA_lt {V M : Nat} (h1 : 1 ≤ M) (i : Nat) : fA V M i < nA V M := List.idxOf_lt_length_of_mem (fA_mem h1 i)
theorem fA_into {V M : Nat} (h1 : 1 ≤ M) : Into (fA V M) (nA V M) := fun i _ => fA_lt h1 i
theorem gA_fA {V M : Nat} (h1 : 1 ≤ M) (i : Nat) : gA V M (fA V M i) = gp (wA V M i) := by
  have h := gA_get (fA_lt (V := V) h1 i)
  have h2 := fA_lt (V := V) h1 i
  unfold nA at h2
  rw [List.getElem?_eq_getElem h2] at h
  simp only [Option.some.injEq] at h
  rw [← h]
  exact List.getElem_idxOf h2
theorem stv_wA {V M : Nat} (h1 : 1 ≤ M) (i : Nat) : stv (bA M) (wA V M i) = uA V M (fA V M i) := by
  unfold stv uA
  rw [wA_len, gA_fA h1]
/-- The run from the word behind a list. -/
theorem rn_wA {V M : Nat} (h1 : 1 ≤ M) (h2 : M ≤ 15) (hV : V ≤ 8) {i : Nat} (hi : i < nA V M) : ∀ k, rw' (bA M) V (uA V M i).toNat k = wA V M (it (fA V M) k i)
  | 0 => by
    show wd (bA M) V (((uA V M i).toNat : Nat) : Int) = wd (bA M) V (uA V M i)
    rw [show (((uA V M i).toNat : Nat) : Int) = uA V M i by have := (uA_bd h1 h2 hV hi).1; omega]
  | k + 1 => by
    rw [rw_succ (by unfold bA; omega) (by unfold bA; omega) hV, rn_wA h1 h2 hV hi k, stv_wA h1]
    rfl

end Go.Proofs.Ytadjjmlneghklaa

/- from XMH -/
namespace Go.Proofs.Ytadjjmlneghklaa
set_option linter.unusedVariables false
set_option linter.unusedSimpArgs false
set_option maxRecDepth 100000

/-- m is the least number of the cycle in which the run from i ends. -/
def Lo (f : Nat → Nat) (n i m : Nat) : Prop := lead f n m = true ∧ ∃ t, it f t i = m
theorem Lo.le {f : Nat → Nat} {n i m m' : Nat} (h : Into f n) (h1 : lead f n m = true) (h2 : lead f n m' = true) {t t' : Nat} (e1 : it f t i = m) (e2 : it f t' i = m') (ht : t ≤ t') : m = m' := by
  have hc := ((lead_iff h).1 h1).1
  have hm : it f (t' - t) m = m' := by rw [← e1, ← it_add, show t' - t + t = t' by omega, e2]
  have hr : m' ∈ rnd f n m := hm ▸ mem_rnd_any h hc _
  have l1 := ((lead_iff h).1 h1).2 m' hr
  have l2 := ((lead_iff h).1 h2).2 m (rnd_back h hc hr).1
  omega
theorem Lo.uniq {f : Nat → Nat} {n i m m' : Nat} (h : Into f n) (h1 : Lo f n i m) (h2 : Lo f n i m') : m = m' := by
  obtain ⟨l1, t, e1⟩ := h1
  obtain ⟨l2, t', e2⟩ := h2
  by_cases ht : t ≤ t'
  · exact Lo.le h l1 l2 e1 e2 ht
  · exact (Lo.le h l2 l1 e2 e1 (by omega)).symm
theorem Lo.self {f : Nat → Nat} {n m : Nat} (h : lead f n m = true) : Lo f n m m := ⟨h, 0, rfl⟩

theorem miF_min (g : Nat → Int) : ∀ k j, j < k → g (miF g k) ≤ g j
  | 0, j, h => by omega
  | k + 1, j, h => by
    rw [miF_succ]
    by_cases e : j = k
    · subst e; split <;> omega
    · have := miF_min g k j (by omega)
      split <;> omega

theorem cyc_turn {f : Nat → Nat} {n i L T : Nat} (h : Into f n) (hi : i < n) (hTL : T < L) (hne : ∀ a b, a < b → b < L → it f a i ≠ it f b i) (hyt : it f T i = it f L i) (val : Nat → Int) (hmono : ∀ a b, a < n → b < n → (val a < val b ↔ a < b)) :
    Lo f n i (it f (T + miF (fun j => val (it f (T + j) i)) (L - T)) i) ∧ per f n (it f (T + miF (fun j => val (it f (T + j) i)) (L - T)) i) = L - T ∧
      ∀ j, it f (T + (miF (fun j => val (it f (T + j) i)) (L - T) + j) % (L - T)) i = it f j (it f (T + miF (fun j => val (it f (T + j) i)) (L - T)) i) := by
  obtain ⟨p, hp⟩ : ∃ p, p = L - T := ⟨_, rfl⟩
  obtain ⟨q, hq⟩ : ∃ q, q = miF (fun j => val (it f (T + j) i)) (L - T) := ⟨_, rfl⟩
  have hq1 := miF_le (fun j => val (it f (T + j) i)) (L - T)
  have hq2 := miF_min (fun j => val (it f (T + j) i)) (L - T)
  rw [← hq] at hq1 hq2
  rw [← hq, ← hp]
  rw [← hp] at hq1 hq2
  obtain ⟨y, hy⟩ : ∃ y, y = it f T i := ⟨_, rfl⟩
  have ey : ∀ a, it f (T + a) i = it f a y := fun a => by rw [hy, ← it_add, Nat.add_comm]
  have hyn : y < n := by rw [hy]; exact it_lt h T hi
  have hpy : it f p y = y := by rw [← ey, show T + p = L by omega, ← hyt, hy]
  have hc := cyc_of_per h hyn (show 1 ≤ p by omega) hpy
  have hper : per f n y = p := per_eq h hc (by omega) hpy fun j h1 h2 e => by
    rw [← ey, hy] at e
    exact hne T (T + j) (by omega) (by omega) e.symm
  obtain ⟨m, hm⟩ : ∃ m, m = it f q y := ⟨_, rfl⟩
  have hcm : cyc f n m = true := by rw [hm]; exact cyc_it h hc q
  have hpm : it f p m = m := by rw [hm, ← it_add, Nat.add_comm, it_add, hpy]
  rw [ey, ← hm]
  refine ⟨⟨(lead_iff h).2 ⟨hcm, fun z hz => ?_⟩, T + q, by rw [ey, ← hm]⟩, ?_, fun j => ?_⟩
  · have hzy := rnd_trans h hc (hm ▸ mem_rnd_any h hc q) hz
    obtain ⟨j, hj, rfl⟩ := mem_rnd.1 hzy
    rw [hper] at hj
    have h3 := hq2 j hj
    simp only [ey] at h3
    rw [← hm] at h3
    have h4 := (hmono (it f j y) m (it_lt h j hyn) (cyc_lt h hcm))
    by_cases hlt : it f j y < m
    · have := h4.2 hlt; omega
    · omega
  · refine per_eq h hcm (by omega) hpm fun j h1 h2 e => ?_
    have e2 : it f (p - q + j + q) y = y := by
      rw [it_add, it_add, ← hm, e, hm, ← it_add, show p - q + q = p by omega, hpy]
    have h5 := (per_mod h hc _).1 e2
    rw [hper, show p - q + j + q = j + p by omega, Nat.add_mod_right, Nat.mod_eq_of_lt h2] at h5
    omega
  · rw [ey, ← it_mod hpy, Nat.add_comm, it_add, ← hm]

/-- The cycle of words in which the run from the word behind list i ends. -/
theorem cyL_wA {V M : Nat} (h1 : 1 ≤ M) (h2 : M ≤ 15) (hV : V ≤ 8) {i L T : Nat} (hi : i < nA V M) (F : Nat → List Int) (hF : ∀ k, F k = wA V M (it (fA V M) k i)) (hR : Rn F L T V (bA M)) :
    ∃ m, Lo (fA V M) (nA V M) i m ∧ cyL F T (L - T) (bA M) = (rnd (fA V M) (nA V M) m).map (wA V M) := by
  have hin := fA_into (V := V) h1
  have hlt : ∀ k, it (fA V M) k i < nA V M := fun k => it_lt hin k hi
  obtain ⟨c1, c2, c3⟩ := cyc_turn hin hi hR.tl (fun a b hab hb e => hR.ne a b hab hb (by rw [hF, hF, e])) (wA_inj h1 h2 hV (hlt T) (hlt L) (by rw [← hF, ← hF]; exact hR.yt)) (uA V M) (fun a b ha hb => uA_lt_iff h1 h2 hV ha hb)
  have e1 : cvl F T (bA M) = fun j => uA V M (it (fA V M) (T + j) i) := by
    funext j
    unfold cvl
    rw [hF, vl_wA h1 h2 hV (hlt _)]
  unfold cyL
  rw [e1]
  refine ⟨_, c1, ?_⟩
  unfold rnd
  rw [c2, List.map_map]
  refine List.map_congr_left fun j hj => ?_
  unfold cyF
  rw [hF, c3 j]
  rfl

end Go.Proofs.Ytadjjmlneghklaa

/- from XMJ -/
namespace Go.Proofs.Ytadjjmlneghklaa
open Go.RowKit
set_option linter.unusedVariables false
set_option linter.unusedSimpArgs false
set_option maxRecDepth 100000

def cmpI (a b : Int) : Int := if a < b then -1 else if b < a then 1 else 0
theorem isNaN_any (a : Int) (w : World) : Calls Try.prog 83 #[.int .i64 a] w fun e w' => e = .returned (.bool false) ∧ w = w' := by
  have h : (a != a) = false := bne_no rfl
  go_enter Try.func83, Try.ntmps83
  go_wp2
  go_ret
  exact ⟨rfl, rfl⟩

theorem cmp_any (a b : Int) (w : World) : Calls Try.prog 79 #[.int .i64 a, .int .i64 b] w fun e w' => e = .returned (.int .i64 (cmpI a b)) ∧ w = w' := by
  obtain ⟨c, hc⟩ : ∃ c, c = cmpI a b := ⟨_, rfl⟩
  have HC := Lib.hid hc
  rw [← hc]
  clear hc
  by_cases h1 : a < b
  · have HE := Lib.hid (show c = -1 by rw [HC.out]; unfold cmpI; rw [if_pos h1])
    go_enter Try.func79, Try.ntmps79
    go_wp2_with (go_at_call 83; refine (isNaN_any _ _).mono ?_; rintro e w1 ⟨rfl, rfl⟩)
    go_ret
    exact ⟨ret_int HE.out.symm, rfl⟩
  · by_cases h2 : b < a
    · have HE := Lib.hid (show c = 1 by rw [HC.out]; unfold cmpI; rw [if_neg h1, if_pos h2])
      go_enter Try.func79, Try.ntmps79
      go_wp2_with (go_at_call 83; refine (isNaN_any _ _).mono ?_; rintro e w1 ⟨rfl, rfl⟩)
      go_ret
      exact ⟨ret_int HE.out.symm, rfl⟩
    · have HE := Lib.hid (show c = 0 by rw [HC.out]; unfold cmpI; rw [if_neg h1, if_neg h2])
      go_enter Try.func79, Try.ntmps79
      go_wp2_with (go_at_call 83; refine (isNaN_any _ _).mono ?_; rintro e w1 ⟨rfl, rfl⟩)
      go_ret
      exact ⟨ret_int HE.out.symm, rfl⟩

/-- Lists of the same length held against each other. -/
def cmpL : List Int → List Int → Int
  | x :: xs, y :: ys => if cmpI x y = 0 then cmpL xs ys else cmpI x y
  | _, _ => 0
theorem cmpL_lt : ∀ {xs ys : List Int}, lexB xs ys = true → cmpL xs ys = -1
  | [], ys, h => by cases ys <;> simp [lexB] at h
  | x :: xs, [], h => by simp [lexB] at h
  | x :: xs, y :: ys, h => by
    simp only [lexB, Bool.or_eq_true, Bool.and_eq_true, decide_eq_true_eq] at h
    unfold cmpL
    rcases h with h | ⟨rfl, h⟩
    · have e : cmpI x y = -1 := by unfold cmpI; rw [if_pos h]
      rw [e]; rfl
    · have e : cmpI x x = 0 := by unfold cmpI; rw [if_neg (by omega), if_neg (by omega)]
      rw [e, if_pos rfl, cmpL_lt h]
theorem cmpL_gt : ∀ {xs ys : List Int}, lexB ys xs = true → cmpL xs ys = 1
  | [], ys, h => by cases ys <;> simp [lexB] at h
  | x :: xs, [], h => by simp [lexB] at h
  | x :: xs, y :: ys, h => by
    simp only [lexB, Bool.or_eq_true, Bool.and_eq_true, decide_eq_true_eq] at h
    unfold cmpL
    rcases h with h | ⟨rfl, h⟩
    · have e : cmpI x y = 1 := by unfold cmpI; rw [if_neg (by omega), if_pos h]
      rw [e]; rfl
    · have e : cmpI y y = 0 := by unfold cmpI; rw [if_neg (by omega), if_neg (by omega)]
      rw [e, if_pos rfl, cmpL_gt h]
theorem cmpL_self : ∀ (xs : List Int), cmpL xs xs = 0
  | [] => rfl
  | x :: xs => by
    have e : cmpI x x = 0 := by unfold cmpI; rw [if_neg (by omega), if_neg (by omega)]
    unfold cmpL
    rw [e, if_pos rfl, cmpL_self xs]
theorem cmpL_drop {xs ys : List Int} {k : Nat} (h1 : k < xs.length) (h2 : k < ys.length) : cmpL (xs.drop k) (ys.drop k) = if cmpI xs[k] ys[k] = 0 then cmpL (xs.drop (k + 1)) (ys.drop (k + 1)) else cmpI xs[k] ys[k] := by
  rw [List.drop_eq_getElem_cons h1, List.drop_eq_getElem_cons h2]
  rfl

theorem compare_any (v u : Value) (xs ys : List Int) (w : World) (hv : Sl w v xs) (hu : Sl w u ys) (hl : xs.length = ys.length) (h8 : xs.length ≤ 1000) :
    Calls Try.prog 69 #[v, u] w fun e w' => e = .returned (.int .i64 (cmpL xs ys)) ∧ w = w' := by
  obtain ⟨a, cap, rfl, hx⟩ := hv
  obtain ⟨c, cap2, rfl, hy⟩ := hu
  have HX := Lib.hid hx
  have HY := Lib.hid hy
  have HL := Lib.hid hl
  obtain ⟨n, hn⟩ : ∃ n, n = xs.length := ⟨_, rfl⟩
  have HN := Lib.hid hn
  rw [← hl, ← hn]
  rw [← hn] at h8
  obtain ⟨R, hR⟩ : ∃ R, R = cmpL xs ys := ⟨_, rfl⟩
  have HR := Lib.hid hR
  rw [← hR]
  clear hx hy hl hn hR
  go_enter Try.func69, Try.ntmps69
  go_wp2
  go_loop [11] (fun i => ∃ k : Nat, k ≤ n ∧ i = .int .i64 (k : Int) ∧ cmpL (xs.drop k) (ys.drop k) = R) (fun i => n - (intOf i).toNat)
  case atStart => exact ⟨0, Nat.zero_le _, rfl, by rw [List.drop_zero, List.drop_zero, HR.out]⟩
  case round =>
    obtain ⟨k, hk, rfl, hd⟩ := hrel
    have HD := Lib.hid hd
    clear hd
    by_cases hlt : k < n
    · have k1 : k < xs.length := by rw [← HN.out]; exact hlt
      have k2 : k < ys.length := by rw [← HL.out]; exact k1
      rcases HX.out with hx | ⟨b, off, rfl, hbl, hc⟩
      · rw [hx] at k1; simp at k1
      rcases HY.out with hy | ⟨b2, off2, rfl, hbl2, hc2⟩
      · rw [hy] at k2; simp at k2
      have hcell := hc k k1
      have hcell2 := hc2 k k2
      have HS := Lib.hid (cmpL_drop k1 k2)
      obtain ⟨x, hxx⟩ : ∃ x, x = xs[k] := ⟨_, rfl⟩
      obtain ⟨y, hyy⟩ : ∃ y, y = ys[k] := ⟨_, rfl⟩
      rw [← hxx] at hcell HS
      rw [← hyy] at hcell2 HS
      clear hc hc2 hxx hyy k1 k2
      obtain ⟨z, hz⟩ : ∃ z, z = cmpI x y := ⟨_, rfl⟩
      have HCM := Lib.hid (fun w' => cmp_any x y w')
      rw [← hz] at HS HCM
      clear hz
      rw [HD.out] at HS
      by_cases h0 : z = 0
      · have hb : (z != 0) = false := bne_no h0
        rw [if_pos h0] at HS
        clear h0
        go_wp2_with (go_at_call 79; refine (HCM.out _).mono ?_; rintro e w1 ⟨rfl, rfl⟩)
        go_round
        case rel => exact ⟨k + 1, by omega, by go_num, HS.out.symm⟩
        case measure => simp [intOf]; omega
      · have hb : (z != 0) = true := bne_yes h0
        rw [if_neg h0] at HS
        clear h0
        go_wp2_with (go_at_call 79; refine (HCM.out _).mono ?_; rintro e w1 ⟨rfl, rfl⟩)
        go_ret
        exact ⟨ret_int HS.out.symm, rfl⟩
    · obtain rfl : n = k := by omega
      have HZ := Lib.hid (show R = 0 by
        have := HD.out
        rw [List.drop_eq_nil_of_le (by rw [HN.out]; exact Nat.le_refl _)] at this
        rw [← this]; rfl)
      go_wp2
      go_ret
      exact ⟨ret_int HZ.out.symm, rfl⟩

end Go.Proofs.Ytadjjmlneghklaa

/- from XMK -/
namespace Go.Proofs.Ytadjjmlneghklaa
open Go.RowKit
set_option linter.unusedVariables false
set_option linter.unusedSimpArgs false
set_option maxRecDepth 100000

theorem bsf_any (v u : Value) (vs : List Value) (Z : Nat → List Int) (N p k : Nat) (B : Nat) (w : World) (h : LLf w B v vs Z) (hN : vs.length = N) (hu : Sl w u (Z p)) (hp : p < N) (hk : ∀ i, i < N → (Z i).length = k) (hk2 : k ≤ 1000)
    (hlex : ∀ i j, i < j → j < N → lexB (Z i) (Z j) = true) (hN2 : N ≤ 1000000) :
    Calls Try.prog 67 #[v, u, .func (Fn.func 69) #[] #[]] w fun e w' => e = .returned (.tuple #[.int .i64 (p : Int), .bool true]) ∧ w = w' := by
  have H := Lib.hid h
  obtain ⟨a, cap, rfl, ha⟩ := h.shape
  have HA := Lib.hid ha
  have HVN := Lib.hid hN
  have HCM := Lib.hid (show ∀ (i : Nat) (z : Value) (w' : World), w' = w → i < N → vs[i]? = some z → Calls Try.prog 69 #[z, u] w' fun e w'' => e = .returned (.int .i64 (cmpL (Z i) (Z p))) ∧ w' = w'' from fun i z w' hw hi hz => by
    subst hw
    exact compare_any z u (Z i) (Z p) w' (h.at' i z hz).sl hu (by rw [hk i hi, hk p hp]) (by rw [hk i hi]; exact hk2))
  have HLT := Lib.hid (show ∀ i, i < p → cmpL (Z i) (Z p) = -1 from fun i hi => cmpL_lt (hlex i p hi hp))
  have HGT := Lib.hid (show ∀ i, p < i → i < N → cmpL (Z i) (Z p) = 1 from fun i hi hiN => cmpL_gt (hlex p i hi hiN))
  have HEQ := Lib.hid (cmpL_self (Z p))
  obtain ⟨a2, c2, hu2⟩ : ∃ a2 c2, u = .slice a2 (Z p).length c2 := by obtain ⟨x1, x2, x3, _⟩ := hu; exact ⟨x1, x2, x3⟩
  subst hu2
  rw [hN]
  rw [hN] at H
  clear h ha hN hu hk hlex
  go_enter Try.func67, Try.ntmps67
  go_wp2
  go_loop [9, 10] (fun x y => ∃ i j : Nat, i ≤ p ∧ p ≤ j ∧ j ≤ N ∧ x = .int .i64 (i : Int) ∧ y = .int .i64 (j : Int)) (fun x y => (intOf y).toNat - (intOf x).toNat)
  case atStart => exact ⟨0, N, Nat.zero_le _, Nat.le_of_lt hp, Nat.le_refl _, rfl, rfl⟩
  case round =>
    obtain ⟨i, j, hi, hj, hjN, rfl, rfl⟩ := hrel
    by_cases hij : i < j
    · obtain ⟨m, hm⟩ : ∃ m, m = (i + j) / 2 := ⟨_, rfl⟩
      have hm1 : i ≤ m := by omega
      have hm2 : m < j := by omega
      obtain ⟨z, hz⟩ : ∃ z, vs[m]? = some z := ⟨vs[m]'(by rw [HVN.out]; omega), by simp⟩
      rcases HA.out with hx | ⟨gv, rfl⟩
      · have := HVN.out; rw [hx] at this; simp at this; omega
      have hcell : w.cell? ⟨gv, (i + j) / 2, none⟩ = some z := by rw [← hm]; exact H.out.cell hz
      have HC := Lib.hid (HCM.out m z w rfl (by omega) hz)
      obtain ⟨a1, c1, rfl⟩ := (H.out.at' m z hz).shape'
      have HM := Lib.hid hm
      clear hz hm
      obtain ⟨r, hr⟩ : ∃ r, r = cmpL (Z m) (Z p) := ⟨_, rfl⟩
      have HR := Lib.hid hr
      rw [← hr] at HC
      clear hr
      by_cases hmp : m < p
      · have h0 : r < 0 := by rw [HR.out, HLT.out m hmp]; decide
        go_wp2_with (go_at_call 69; refine HC.out.mono ?_; rintro e w1 ⟨rfl, rfl⟩)
        go_round
        case rel => exact ⟨m + 1, j, by omega, by omega, by omega, by rw [HM.out]; go_num, rfl⟩
        case measure => rw [HM.out] at hm1 hm2; simp [intOf]; omega
      · have h0 : ¬ r < 0 := by
          by_cases e : m = p
          · rw [HR.out, e, HEQ.out]; decide
          · rw [HR.out, HGT.out m (by omega) (by omega)]; decide
        go_wp2_with (go_at_call 69; refine HC.out.mono ?_; rintro e w1 ⟨rfl, rfl⟩)
        go_round
        case rel => exact ⟨i, m, by omega, by omega, by omega, rfl, by rw [HM.out]; go_num⟩
        case measure => rw [HM.out] at hm1 hm2; simp [intOf]; omega
    · obtain rfl : p = i := by omega
      obtain ⟨z, hz⟩ : ∃ z, vs[p]? = some z := ⟨vs[p]'(by rw [HVN.out]; omega), by simp⟩
      rcases HA.out with hx | ⟨gv, rfl⟩
      · have := HVN.out; rw [hx] at this; simp at this; omega
      have hcell : w.cell? ⟨gv, p, none⟩ = some z := H.out.cell hz
      have HC := Lib.hid (HCM.out p z w rfl hp hz)
      rw [HEQ.out] at HC
      obtain ⟨a1, c1, rfl⟩ := (H.out.at' p z hz).shape'
      clear hz
      go_wp2_with (go_at_call 69; refine HC.out.mono ?_; rintro e w1 ⟨rfl, rfl⟩)
      go_ret2
      exact ⟨rfl, rfl⟩

end Go.Proofs.Ytadjjmlneghklaa
