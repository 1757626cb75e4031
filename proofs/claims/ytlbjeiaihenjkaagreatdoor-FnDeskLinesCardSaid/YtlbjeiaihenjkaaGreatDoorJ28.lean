/-
  Joint text of CC, CD: what each proves stands ahead of it.
-/
import Derived.Test.YtlbjeiaihenjkaaGreatDoorJ27
import Derived.Lib.ItoaLen
/- from CC: The console, plain: what the functions answer that lines call lies in range; decimal numbers read.  -/
namespace Go.Proofs.YtlbjeiaihenjkaaGreatDoor
open Go.RowKit
set_option linter.unusedVariables false
set_option linter.unusedSimpArgs false
set_option maxRecDepth 100000

theorem numF_rng (b : Int) (hb : 0 ≤ b) : ∀ (xs : List Int) (n m : Int), (∀ x ∈ xs, 0 ≤ x) → Num n → numF b xs n = some m → Num m
  | [], n, m, _, hn, h => by simp [numF] at h; subst h; exact hn
  | d :: ds, n, m, hx, hn, h => by
    unfold numF at h
    split at h
    · cases h
    · rename_i hle
      have hd := hx d (by simp)
      have := Int.mul_nonneg hn.1 hb
      exact numF_rng b hb ds _ m (fun x hm => hx x (by simp [hm])) ⟨by omega, by omega⟩ h
theorem num0 : Num 0 := ⟨by omega, by omega⟩

theorem rev_rng {n b m : Int} (h : askF RReverseNumber n b = some m) : Num m := by
  unfold askF at h
  split at h
  · rename_i hq
    exact numF_rng b (by have := hq.2.1; omega) _ 0 m (fun x hx => (dgs_all b n hq.2.1 hq.1.1 x (List.mem_reverse.1 hx)).1) num0 h
  · cases h
theorem up_rng {n b m : Int} (h : askF RSortedUp n b = some m) : Num m := by
  unfold askF at h
  split at h
  · rename_i hq
    exact numF_rng b (by have := hq.2.1; omega) _ 0 m (fun x hx => (srt_all (dgs_all b n hq.2.1 hq.1.1) x hx).1) num0 h
  · cases h
theorem down_rng {n b m : Int} (h : askF RSortedDown n b = some m) : Num m := by
  unfold askF at h
  split at h
  · rename_i hq
    exact numF_rng b (by have := hq.2.1; omega) _ 0 m (fun x hx => (srtr_all (dgs_all b n hq.2.1 hq.1.1) x hx).1) num0 h
  · cases h
theorem inN_rng {x m : Int} (h : inN x = some m) : Num m := by
  unfold inN at h
  split at h
  · rename_i hq
    cases h
    exact ⟨by have := hq.1; omega, hq.2⟩
  · cases h
theorem step_rng {n m : Int} (h : ledW 1 n = some m) : Num m := by
  unfold ledW at h
  split at h
  · exact inN_rng h
  · cases h
theorem short_rng {n m : Int} (h : ledS n = some m) : Num m := by
  unfold ledS at h
  split at h
  · exact inN_rng h
  · cases h
theorem next_rng {n b m : Int} (h : askF RNextPalindrome n b = some m) : Num m := by
  unfold askF at h
  split at h
  · rename_i hq
    have hb := hq.2.1
    have h0 := hq.1.1
    have hd := dgs_all b n hb h0
    have hf : 0 ≤ fstH b n := by
      unfold fstH
      exact Int.ediv_nonneg h0 (by have := Int.pow_pos (n := b) (m := (dgs b n).length / 2) (by omega); omega)
    have hdf := dgs_all b (fstH b n + 1) hb (by omega)
    rw [next_main b n hb h0] at h
    split at h
    · rename_i hv
      cases h
      have := val_ge b hb (mir (dgs b n)) 0 (fun x hx => (hd x (mir_mem hx)).1) (by omega)
      exact ⟨this, hv.1⟩
    · split at h
      · refine numF_rng b (by omega) _ 0 m (fun x hx => ?_) num0 h
        have hl : 1 ≤ (dgs b n).length := by
          have hne := dgs_ne b n
          cases h3 : dgs b n with
          | nil => simp [h3] at hne
          | cons x t => simp
        obtain ⟨k, hk⟩ : ∃ k, (dgs b n).length = k + 1 := ⟨(dgs b n).length - 1, by omega⟩
        rw [hk] at hx
        rcases ends_all k x hx with e | e <;> omega
      · refine numF_rng b (by omega) _ 0 m (fun x hx => ?_) num0 h
        rcases List.mem_append.1 (mir_mem hx) with h1 | h1
        · exact (hdf x h1).1
        · exact (hd x (List.mem_of_mem_drop h1)).1
  · cases h
theorem pow_rng {n b k m : Int} (h : (if OK3 n b k 8 then some (V_PowerSum n b k) else none) = some m) : Num m := by
  split at h
  · rename_i hok
    cases h
    obtain ⟨⟨n0, n1⟩, ⟨b0, b1⟩, p0, p1⟩ := of_decide_eq_true hok
    unfold V_PowerSum
    rw [if_pos hok]
    have := ps_le8 (b := b.toNat) (p := k.toNat) (n := n.toNat) (by omega) (by omega) (by omega) (by omega)
    exact ⟨by omega, by omega⟩
  · cases h
theorem parse_rng {b : Int} {cs : Tx} {m : Int} (h : RParse b cs = some m) : Num m ∧ Bas b := by
  unfold RParse at h
  split at h
  · rename_i hq
    refine ⟨numF_rng b (by have := hq.1.1; omega) _ 0 m (fun x hx => ?_) num0 h, hq.1⟩
    have := hq.2.2
    simp only [areD, Bool.and_eq_true] at this
    exact ((allIn_iff _ _ _).1 this.2 x hx).1
  · cases h

/-- Numbers whose decimal texts are short. -/
def Nice (l : List Int) : Prop := l.length ≤ 2000000 ∧ ∀ x ∈ l, 0 ≤ x ∧ x ≤ 1000000000000000000
theorem run_nice (n b k : Int) : Nice (LF_PowerRun n b k) := by
  unfold LF_PowerRun
  split
  · rename_i hok
    obtain ⟨⟨n0, n1⟩, ⟨b0, b1⟩, p0, p1⟩ := of_decide_eq_true hok
    have hlt : ∀ j, it (ps b.toNat k.toNat) (j + 1) n.toNat < PM := by
      intro j
      induction j with
      | zero =>
        have := ps_le4 (b := b.toNat) (p := k.toNat) (n := n.toNat) (by omega) (by omega) (by omega) (by omega)
        show ps b.toNat k.toNat n.toNat < 1012501
        omega
      | succ j ih =>
        have := ps_le4 (b := b.toNat) (p := k.toNat) (n := it (ps b.toNat k.toNat) (j + 1) n.toNat) (by omega) (by omega) (by omega) (by unfold PM at ih; omega)
        show ps b.toNat k.toNat (it (ps b.toNat k.toNat) (j + 1) n.toNat) < 1012501
        omega
    refine ⟨?_, fun x hx => ?_⟩
    · rw [run_len]
      have := (rl_spec hlt).2.1
      have hp : PM = 1012501 := rfl
      omega
    · obtain ⟨j, hj, rfl⟩ := List.mem_map.1 hx
      cases j with
      | zero => show 0 ≤ ((n.toNat : Nat) : Int) ∧ ((n.toNat : Nat) : Int) ≤ _; omega
      | succ j => have := hlt j; unfold PM at this; omega
  · exact ⟨by simp, by simp⟩
theorem own_small10 {b p : Nat} (hb : 2 ≤ b) (hb' : b ≤ 10) (hp : 1 ≤ p) (hp' : p ≤ 6) : ∀ x ∈ ownL b p, 0 ≤ x ∧ x ≤ 1000000000000 := by
  intro x hx
  obtain ⟨X, rfl, hX⟩ := (ownL_mem hb (show b ≤ 16 by omega) hp (show p ≤ 8 by omega) x).1 hx
  have h1 := ps_le p hb _ X (own_lt hb (by omega) hp (by omega) hX)
  have h2 := places_bd hb hb' hp hp'
  unfold places at h2
  have h3 := pow6 (show b - 1 ≤ 9 by omega) hp'
  have h4 := Nat.mul_le_mul h2 h3
  rw [hX] at h1
  omega
theorem own_nice (b k : Int) : Nice (LF_OwnPowers b k) := by
  unfold LF_OwnPowers
  split
  · rename_i hok
    obtain ⟨⟨b0, b1⟩, p0, p1⟩ := of_decide_eq_true hok
    refine ⟨?_, fun x hx => ?_⟩
    · have := ownL_len (b := b.toNat) (p := k.toNat) (by omega) (by omega) (by omega) (by omega)
      omega
    · have := own_small10 (b := b.toNat) (p := k.toNat) (by omega) (by omega) (by omega) (by omega) x hx
      omega
  · exact ⟨by simp, by simp⟩
theorem dgs_nice {n b : Int} (h : Num n) (hb : Bas b) : Nice (dgs b n) := by
  refine ⟨?_, fun x hx => ?_⟩
  · have := dgs_len40 b n hb.1 h.1 h.2
    omega
  · have := dgs_all b n hb.1 h.1 x hx
    have := hb.2
    omega

/-- A number that Go's int holds, not below 0. -/
def Pos (o : Option Int) : Prop := ∀ m, o = some m → 0 ≤ m ∧ m ≤ 1000000000000000000
theorem sum_pos (n b : Int) : Pos (askI RDigitSum n b) := by
  intro m h
  unfold askI at h
  split at h
  · rename_i hq
    cases h
    have := dgs_sum b n hq.2.1 hq.1.1
    have := hq.1.2
    unfold RDigitSum
    omega
  · cases h
theorem dr_rng {b : Int} (hb : 2 ≤ b) : ∀ (k : Nat) (n : Int), n.toNat ≤ k → 0 ≤ n → 0 ≤ dr b n ∧ dr b n ≤ n
  | 0, n, hk, h0 => by rw [dr_end b n (by omega)]; omega
  | k + 1, n, hk, h0 => by
    by_cases hle : b ≤ n
    · rw [dr_step b n hb hle]
      have h1 := dgs_sum b n hb h0
      have h2 := h1.2.2 hle
      have := dr_rng hb k (dgs b n).sum (by omega) h1.1
      omega
    · rw [dr_end b n hle]; omega
theorem root_pos (n b : Int) : Pos (askI RDigitalRoot n b) := by
  intro m h
  unfold askI at h
  split at h
  · rename_i hq
    cases h
    have := dr_rng hq.2.1 n.toNat n (Nat.le_refl _) hq.1.1
    have := hq.1.2
    unfold RDigitalRoot
    omega
  · cases h
theorem steps_pos (n : Int) : Pos (RStepsTo n) := by
  intro m h
  unfold RStepsTo lenO at h
  cases hw : way n with
  | none => rw [hw] at h; cases h
  | some l =>
    rw [hw] at h
    simp only [Option.map_some, Option.some.injEq] at h
    have := way_props hw
    omega
theorem ways_pos (n b : Int) : Pos (askI RCountRearranged n b) := by
  intro m h
  unfold askI at h
  split at h
  · rename_i hq
    cases h
    obtain ⟨⟨n0, n1⟩, b0, b1⟩ := hq
    by_cases hz : n = 0
    · subst hz; simp [RCountRearranged]
    · obtain ⟨c, cs, hcnt, hsum, hlen, hM0, hS⟩ := counts_ok b n b0 b1 n0 n1
      rw [RCR_eq hcnt hz]
      have := prod_le c cs (hS (by omega))
      omega
  · cases h
theorem nw_rng : ∀ (cs : Tx) (i : Nat) (n : Int), n ≤ nw cs i n ∧ nw cs i n ≤ n + 2 ^ (i + cs.length) - 2 ^ i
  | [], i, n => by simp [nw]
  | c :: cs, i, n => by
    rw [nw_cons]
    have e : (2 : Int) ^ (i + 1) = 2 * 2 ^ i := by rw [Int.pow_succ]; omega
    have hp : (0 : Int) < 2 ^ i := Int.pow_pos (by omega)
    have e2 : i + (c :: cs).length = i + 1 + cs.length := by simp; omega
    rw [e2]
    split
    · have := nw_rng cs (i + 1) n
      omega
    · have := nw_rng cs (i + 1) (n + 2 ^ i)
      omega
theorem word_pos (s : ByteArray) : Pos (RNumberOfWord s) := by
  intro m h
  unfold RNumberOfWord at h
  split at h
  · rename_i hok
    cases h
    have h1 := nw_rng s.data.toList 0 1
    have h2 : s.data.toList.length ≤ 20 := by
      unfold okW at hok
      simp only [Bool.and_eq_true, decide_eq_true_eq] at hok
      have := hok.1
      simpa using this
    have h3 : (2 : Int) ^ (0 + s.data.toList.length) ≤ 2 ^ 20 := by
      have : (2 : Nat) ^ (0 + s.data.toList.length) ≤ 2 ^ 20 := Nat.pow_le_pow_right (by omega) (by omega)
      exact_mod_cast this
    have e : (2 : Int) ^ 20 = 1048576 := by decide
    have e0 : (2 : Int) ^ 0 = 1 := by decide
    omega
  · cases h

end Go.Proofs.YtlbjeiaihenjkaaGreatDoor

/- from CD: The console, plain: decimal numbers below a million, read letter by letter.  -/
namespace Go.Proofs.YtlbjeiaihenjkaaGreatDoor
open Go.RowKit
set_option linter.unusedVariables false
set_option linter.unusedSimpArgs false
set_option maxRecDepth 100000

def isDg (c : UInt8) : Bool := decide (48 ≤ c.toNat) && decide (c.toNat ≤ 57)
theorem idx_dgF : ∀ n : Fin 256, (decide (0 ≤ idx (UInt8.ofNat n.val)) && decide (idx (UInt8.ofNat n.val) ≤ 9)) = isDg (UInt8.ofNat n.val) ∧ (isDg (UInt8.ofNat n.val) = true → idx (UInt8.ofNat n.val) = (n.val : Int) - 48) := by decide +kernel
theorem idx_dg (c : UInt8) : (decide (0 ≤ idx c) && decide (idx c ≤ 9)) = isDg c ∧ (isDg c = true → idx c = (c.toNat : Int) - 48) := by
  have h := idx_dgF ⟨c.toNat, c.toNat_lt⟩
  simpa using h

/-- The value of decimal letters behind a number. -/
def dcV : Tx → Int → Int
  | [], n => n
  | c :: cs, n => dcV cs (10 * n + ((c.toNat : Int) - 48))
def dcOk (cs : Tx) : Bool := decide (1 ≤ cs.length) && decide (cs.length ≤ 6) && !(decide (cs.headD 0 = 48) && decide (1 < cs.length)) && cs.all isDg

theorem dcV_val : ∀ (cs : Tx) (n : Int), cs.all isDg = true → val 10 (cs.map idx) n = dcV cs n
  | [], n, _ => rfl
  | c :: cs, n, h => by
    simp only [List.all_cons, Bool.and_eq_true] at h
    rw [List.map_cons, val, dcV, dcV_val cs _ h.2, (idx_dg c).2 h.1]
    congr 1
    omega
theorem dcV_bd : ∀ (cs : Tx) (n : Int), cs.all isDg = true → 0 ≤ n → n * 10 ^ cs.length ≤ dcV cs n ∧ dcV cs n < (n + 1) * 10 ^ cs.length
  | [], n, _, _ => by simp [dcV]; omega
  | c :: cs, n, h, h0 => by
    simp only [List.all_cons, Bool.and_eq_true] at h
    have hc := h.1
    simp only [isDg, Bool.and_eq_true, decide_eq_true_eq] at hc
    have ih := dcV_bd cs (10 * n + ((c.toNat : Int) - 48)) h.2 (by omega)
    have hp : (0 : Int) ≤ 10 ^ cs.length := Int.le_of_lt (Int.pow_pos (by omega))
    have e : (10 : Int) ^ (c :: cs).length = 10 * 10 ^ cs.length := by rw [List.length_cons, Int.pow_succ]; omega
    have h1 := Int.mul_le_mul_of_nonneg_right (show 10 * n ≤ 10 * n + ((c.toNat : Int) - 48) by omega) hp
    have h2 := Int.mul_le_mul_of_nonneg_right (show 10 * n + ((c.toNat : Int) - 48) + 1 ≤ 10 * (n + 1) by omega) hp
    have e1 : n * (10 * 10 ^ cs.length) = 10 * n * 10 ^ cs.length := by rw [← Int.mul_assoc, Int.mul_comm n 10]
    have e2 : (n + 1) * (10 * 10 ^ cs.length) = 10 * (n + 1) * 10 ^ cs.length := by rw [← Int.mul_assoc, Int.mul_comm (n + 1) 10]
    rw [dcV, e, e1, e2]
    omega
theorem allIn_dg (cs : Tx) : allIn 0 (10 - 1) (cs.map idx) = cs.all isDg := by
  unfold allIn
  rw [List.all_map]
  exact List.all_congr rfl (fun c => (idx_dg c).1)
theorem head_dg (c : UInt8) (h : isDg c = true) : (idx c = 0) ↔ c = 48 := by
  rw [(idx_dg c).2 h]
  constructor
  · intro e
    have : c.toNat = 48 := by omega
    exact UInt8.toNat_inj.1 (by simpa using this)
  · intro e; subst e; simp
theorem pow6' : (10 : Int) ^ 6 = 1000000 := by decide
theorem areD_dg (cs : Tx) : areD 10 (cs.map idx) = (decide (1 ≤ cs.length) && !(decide (cs.headD 0 = 48) && decide (1 < cs.length)) && cs.all isDg) := by
  unfold areD
  rw [allIn_dg, List.length_map]
  cases cs with
  | nil => simp
  | cons c t =>
    by_cases hd : isDg c = true
    · have hh := head_dg c hd
      by_cases h48 : c = 48
      · have h0 : idx c = 0 := hh.2 h48
        have h1 : idx 48 = 0 := h48 ▸ h0
        simp only [List.map_cons, List.headD_cons, h48, List.length_cons]
        by_cases ht : t.length = 0
        · simp [ht, h1]
        · simp [ht, h1, Nat.pos_of_ne_zero ht]
      · have h0 : ¬ idx c = 0 := fun e => h48 (hh.1 e)
        simp [h0, h48]
    · simp only [Bool.not_eq_true] at hd
      simp [hd]

theorem rdN_eq (cs : Tx) : rdN cs = if dcOk cs = true then some (dcV cs 0) else none := by
  unfold rdN RParse
  have hB : Bas 10 := ⟨by omega, by omega⟩
  rw [areD_dg]
  by_cases hok : dcOk cs = true
  · rw [if_pos hok]
    unfold dcOk at hok
    simp only [Bool.and_eq_true, decide_eq_true_eq] at hok
    obtain ⟨⟨⟨h1, h2⟩, h3⟩, h4⟩ := hok
    have hv := numF_val 10 (by omega) (cs.map idx) 0 (fun x hx => by
      obtain ⟨c, hc, rfl⟩ := List.mem_map.1 hx
      have hd := List.all_eq_true.1 h4 c hc
      have := (idx_dg c).1
      rw [hd] at this
      simp only [Bool.and_eq_true, decide_eq_true_eq] at this
      exact this.1) (by omega) (by omega)
    have hb := dcV_bd cs 0 h4 (by omega)
    have hp : (10 : Int) ^ cs.length ≤ 10 ^ 6 := by
      have : (10 : Nat) ^ cs.length ≤ 10 ^ 6 := Nat.pow_le_pow_right (by omega) h2
      exact_mod_cast this
    rw [pow6'] at hp
    rw [dcV_val cs 0 h4] at hv
    rw [if_pos ⟨hB, by omega, by simp only [Bool.and_eq_true, decide_eq_true_eq]; exact ⟨⟨h1, h3⟩, h4⟩⟩, hv, if_pos (by omega)]
    show (if dcV cs 0 ≤ 999999 then some (dcV cs 0) else none) = _
    rw [if_pos (by omega)]
  · rw [if_neg hok]
    split
    · rename_i k hk
      split at hk
      · rename_i hq
        obtain ⟨_, hl, hq⟩ := hq
        simp only [Bool.and_eq_true, decide_eq_true_eq] at hq
        obtain ⟨⟨h1, h3⟩, h4⟩ := hq
        have h2 : ¬ cs.length ≤ 6 := fun h => hok (by unfold dcOk; simp only [Bool.and_eq_true, decide_eq_true_eq]; exact ⟨⟨⟨h1, h⟩, h3⟩, h4⟩)
        have hv := numF_val 10 (by omega) (cs.map idx) 0 (fun x hx => by
          obtain ⟨c, hc, rfl⟩ := List.mem_map.1 hx
          have hd := List.all_eq_true.1 h4 c hc
          have := (idx_dg c).1
          rw [hd] at this
          simp only [Bool.and_eq_true, decide_eq_true_eq] at this
          exact this.1) (by omega) (by omega)
        rw [dcV_val cs 0 h4] at hv
        rw [hv] at hk
        split at hk
        · cases hk
          cases cs with
          | nil => simp at h1
          | cons c t =>
            simp only [List.length_cons] at h2
            simp only [List.all_cons, Bool.and_eq_true] at h4
            have hc := h4.1
            simp only [isDg, Bool.and_eq_true, decide_eq_true_eq] at hc
            have hne : c ≠ 48 := fun e => by
              subst e
              have : 1 < t.length + 1 := by omega
              simp [this] at h3
            have hc2 : c.toNat ≠ 48 := fun e => hne (UInt8.toNat_inj.1 (by simpa using e))
            have hb := dcV_bd t (10 * 0 + ((c.toNat : Int) - 48)) h4.2 (by omega)
            have hp : (10 : Int) ^ 6 ≤ 10 ^ t.length := by
              have : (10 : Nat) ^ 6 ≤ 10 ^ t.length := Nat.pow_le_pow_right (by omega) (by omega)
              exact_mod_cast this
            rw [pow6'] at hp
            have h7 := Int.mul_le_mul_of_nonneg_right (show (1 : Int) ≤ 10 * 0 + ((c.toNat : Int) - 48) by omega) (show (0 : Int) ≤ 10 ^ t.length by omega)
            rw [if_neg (by show ¬ dcV t (10 * 0 + ((c.toNat : Int) - 48)) ≤ 999999; omega)]
        · cases hk
      · cases hk
    · rfl
theorem rdN_rng {cs : Tx} {k : Int} (h : rdN cs = some k) : 0 ≤ k ∧ k ≤ 999999 := by
  unfold rdN at h
  split at h
  · rename_i m hm
    split at h
    · cases h
      have := (parse_rng hm).1.1
      omega
    · cases h
  · cases h

end Go.Proofs.YtlbjeiaihenjkaaGreatDoor
