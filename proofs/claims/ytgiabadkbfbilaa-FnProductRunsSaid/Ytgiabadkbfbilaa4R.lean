/-
  Joint text of 4R (written by wip/tools/merge.py).
-/
import Derived.Test.YtgiabadkbfbilaaZ
import Derived.Test.YtgiabadkbfbilaaH
import Derived.Test.YtgiabadkbfbilaaA4
import Derived.Test.YtgiabadkbfbilaaA6
import Derived.Test.YtgiabadkbfbilaaA8
import Derived.Test.YtgiabadkbfbilaaA9
/- from X4R -/
namespace Go.Proofs.Ytgiabadkbfbilaa
open Go.RowKit
set_option linter.unusedVariables false
set_option linter.unusedSimpArgs false
set_option maxRecDepth 100000

theorem val_mono (b : Int) (hb : 2 ≤ b) : ∀ (xs : List Int) (a c : Int), a ≤ c → val b xs a ≤ val b xs c
  | [], a, c, h => h
  | x :: xs, a, c, h => by
    have h1 : a * b ≤ c * b := Int.mul_le_mul_of_nonneg_right h (by omega)
    rw [val, val]
    exact val_mono b hb xs _ _ (by omega)
theorem ins_least (b y : Int) (hb : 2 ≤ b) : ∀ (zs : List Int), zs.Pairwise (· ≤ ·) → ∃ ws, ws.Perm (y :: zs) ∧ ws.Pairwise (· ≤ ·) ∧ ∀ a, val b ws a ≤ val b (y :: zs) a
  | [], _ => ⟨[y], List.Perm.refl _, by simp, fun a => Int.le_refl _⟩
  | z :: zs, h => by
    obtain ⟨h1, h2⟩ := List.pairwise_cons.1 h
    by_cases hyz : y ≤ z
    · refine ⟨y :: z :: zs, List.Perm.refl _, List.pairwise_cons.2 ⟨fun q hq => ?_, h⟩, fun a => Int.le_refl _⟩
      rcases List.mem_cons.1 hq with rfl | hq
      · exact hyz
      · exact Int.le_trans hyz (h1 q hq)
    · obtain ⟨ws, p1, p2, p3⟩ := ins_least b y hb zs h2
      refine ⟨z :: ws, ((List.Perm.cons z p1).trans (List.Perm.swap y z zs)), List.pairwise_cons.2 ⟨fun q hq => ?_, p2⟩, fun a => ?_⟩
      · rcases List.mem_cons.1 (p1.mem_iff.1 hq) with rfl | hq
        · omega
        · exact h1 q hq
      · have e := p3 (a * b + z)
        rw [val] at e
        rw [val, val, val]
        refine Int.le_trans e (val_mono b hb zs _ _ ?_)
        have h3 : (b - 1) * z ≤ (b - 1) * y := Int.mul_le_mul_of_nonneg_left (by omega) (by omega)
        rw [Int.sub_mul, Int.sub_mul] at h3
        rw [Int.add_mul, Int.add_mul]
        have c1 : z * b = b * z := Int.mul_comm _ _
        have c2 : y * b = b * y := Int.mul_comm _ _
        omega
theorem srt_least (b : Int) (hb : 2 ≤ b) : ∀ (xs : List Int) (a : Int), val b (srt xs) a ≤ val b xs a := by
  have key : ∀ xs : List Int, ∃ ws, ws.Perm xs ∧ ws.Pairwise (· ≤ ·) ∧ ∀ a, val b ws a ≤ val b xs a := by
    intro xs
    induction xs with
    | nil => exact ⟨[], List.Perm.refl _, by simp, fun a => Int.le_refl _⟩
    | cons x xs ih =>
      obtain ⟨zs, p1, p2, p3⟩ := ih
      obtain ⟨ws, q1, q2, q3⟩ := ins_least b x hb zs p2
      refine ⟨ws, q1.trans (List.Perm.cons x p1), q2, fun a => Int.le_trans (q3 a) ?_⟩
      rw [val, val]
      exact p3 _
  intro xs a
  obtain ⟨ws, p1, p2, p3⟩ := key xs
  rw [← srt_unique p1 p2]
  exact p3 a
/-- Sorted digits make a number that is no greater. -/
theorem sorted_some {b n : Int} (hb : 2 ≤ b) (h0 : 0 ≤ n) (h1 : n ≤ 1000000000000) : ∃ m, numF b (srt (dgs b n)) 0 = some m := by
  have hd := dgs_all b n hb h0
  rw [numF_val b hb _ 0 (fun x hx => (hd x (srt_mem.1 hx)).1) (by omega) (by omega), if_pos]
  · exact ⟨_, rfl⟩
  · have := srt_least b hb (dgs b n) 0
    rw [val_dgs b hb n.toNat n (Nat.le_refl _) h0] at this
    omega
theorem dgs_bigA (b n : Int) (hb : 2 ≤ b) (h : b ≤ n) : dgs b n = dgs b (n / b) ++ [n % b] := dgs_big b n hb h
theorem dgs_smallA (b n : Int) (h : ¬ b ≤ n) : dgs b n = [n] := dgs_small b n h
theorem dgs_val (b : Int) (hb : 2 ≤ b) : ∀ (k : Nat) (ds : List Int), ds.length = k → ds ≠ [] → (∀ x ∈ ds, 0 ≤ x ∧ x ≤ b - 1) → (ds.length = 1 ∨ ds.headD 0 ≠ 0) → dgs b (val b ds 0) = ds
  | 0, ds, hk, hne, _, _ => absurd (List.eq_nil_of_length_eq_zero hk) hne
  | k + 1, ds, hk, hne, hall, hhd => by
    obtain ⟨init, d, rfl⟩ : ∃ init d, ds = init ++ [d] := ⟨ds.dropLast, ds.getLast hne, (List.dropLast_concat_getLast hne).symm⟩
    have hd := hall d (by simp)
    have hv : val b (init ++ [d]) 0 = val b init 0 * b + d := by rw [val_app]; rfl
    rw [hv]
    by_cases hi : init = []
    · subst hi
      have : val b [] 0 = 0 := rfl
      rw [this, Int.zero_mul, Int.zero_add, dgs_smallA b d (by omega)]
      rfl
    · have hl : init.length = k := by rw [List.length_append] at hk; simpa using hk
      have hpos : 1 ≤ init.length := by cases init with
        | nil => exact absurd rfl hi
        | cons a t => simp
      have hh : init.headD 0 ≠ 0 := by
        rcases hhd with h1 | h1
        · exact absurd (by simpa using h1) hi
        · cases init with
          | nil => exact absurd rfl hi
          | cons a t => simpa using h1
      have hia : ∀ x ∈ init, 0 ≤ x ∧ x ≤ b - 1 := fun x hx => hall x (by simp [hx])
      have ih := dgs_val b hb k init hl hi hia (.inr hh)
      have hge : 1 ≤ val b init 0 := by
        cases init with
        | nil => exact absurd rfl hi
        | cons a t =>
          have ha := hia a (by simp)
          have h0 : a ≠ 0 := by simpa using hh
          have := val_ge b hb t (0 * b + a) (fun x hx => (hia x (by simp [hx])).1) (by omega)
          rw [val]
          omega
      have hbig : b ≤ val b init 0 * b + d := by
        have : 1 * b ≤ val b init 0 * b := Int.mul_le_mul_of_nonneg_right hge (by omega)
        omega
      have hdiv : (val b init 0 * b + d) / b = val b init 0 := by
        rw [Int.add_comm, Int.add_mul_ediv_right _ _ (by omega), Int.ediv_eq_zero_of_lt hd.1 (by omega), Int.zero_add]
      have hmod : (val b init 0 * b + d) % b = d := by
        rw [Int.add_comm, Int.add_mul_emod_self_right, Int.emod_eq_of_lt hd.1 (by omega)]
      rw [dgs_bigA b _ hb hbig, hdiv, hmod, ih]
theorem pru_big {b n : Int} (hb : 2 ≤ b) (hb' : b ≤ 16) (h0 : 0 ≤ n) (h1 : n ≤ 1000000000000) (h : b ≤ n) : pru b n = n :: pru b (pd b n) := by
  obtain ⟨s0, _, s3⟩ := pd_lt b n hb hb' h0 h1
  exact ru_step h s0 (s3 h)
theorem pru_end {b n : Int} (h : ¬ b ≤ n) : pru b n = [n] := ru_end h
theorem lastD_cons {x : Int} {xs : List Int} (h : 1 ≤ xs.length) : lastD (x :: xs) = lastD xs := by
  unfold lastD
  rw [show (x :: xs).length - 1 = (xs.length - 1) + 1 by rw [List.length_cons]; omega, List.getD_cons_succ]
/-- A run of digit products: each number's product stands behind it, the root last. -/
structure Prn (b n : Int) : Prop where
  pos : 1 ≤ (pru b n).length
  first : (pru b n).getD 0 0 = n
  root : lastD (pru b n) < b
  all : ∀ k, k < (pru b n).length → 0 ≤ (pru b n).getD k 0 ∧ (pru b n).getD k 0 ≤ 1000000000000
  step : ∀ k, k + 1 < (pru b n).length → (pru b n).getD (k + 1) 0 = pd b ((pru b n).getD k 0) ∧ (pru b n).getD (k + 1) 0 < (pru b n).getD k 0
theorem prn (b : Int) (hb : 2 ≤ b) (hb' : b ≤ 16) : ∀ (f : Nat) (n : Int), n.toNat ≤ f → 0 ≤ n → n ≤ 1000000000000 → Prn b n
  | f, n, hf, h0, h1 => by
    by_cases h : b ≤ n
    · obtain ⟨s0, s1, s3⟩ := pd_lt b n hb hb' h0 h1
      have s4 := s3 h
      match f, hf with
      | 0, hf => omega
      | f + 1, hf =>
        have ih := prn b hb hb' f (pd b n) (by omega) s0 (by omega)
        have e := pru_big hb hb' h0 h1 h
        have hp := ih.pos
        refine ⟨by rw [e]; simp, by rw [e]; rfl, by rw [e, lastD_cons hp]; exact ih.root, fun k hk => ?_, fun k hk => ?_⟩
        · rw [e] at hk ⊢
          cases k with
          | zero => exact ⟨h0, h1⟩
          | succ j => rw [List.getD_cons_succ]; exact ih.all j (by simpa using hk)
        · rw [e] at hk ⊢
          cases k with
          | zero =>
            rw [List.getD_cons_succ, List.getD_cons_zero, ih.first]
            exact ⟨rfl, s4⟩
          | succ j =>
            rw [List.getD_cons_succ, List.getD_cons_succ]
            exact ih.step j (by simpa using hk)
    · have e := pru_end h
      refine ⟨by rw [e]; simp, by rw [e]; rfl, by rw [e]; show n < b; omega, fun k hk => ?_, fun k hk => ?_⟩
      · rw [e] at hk ⊢
        obtain rfl : k = 0 := by simpa using hk
        exact ⟨h0, h1⟩
      · rw [e] at hk
        simp at hk

/-! Products of digits as products of natural numbers. -/
theorem prodN_app : ∀ (l m : List Nat), prodN (l ++ m) = prodN l * prodN m
  | [], m => by simp [prodN]
  | d :: l, m => by rw [List.cons_append, prodN, prodN_app l m, prodN, Nat.mul_assoc]
theorem prodN_perm {l m : List Nat} (h : l.Perm m) : prodN l = prodN m := by
  induction h with
  | nil => rfl
  | cons x _ ih => rw [prodN, prodN, ih]
  | swap x y l => rw [prodN, prodN, prodN, prodN, Nat.mul_left_comm]
  | trans _ _ ih1 ih2 => rw [ih1, ih2]
theorem pd_nat (b : Int) (hb : 2 ≤ b) (hb' : b ≤ 16) : ∀ (k : Nat) (n : Int), n.toNat ≤ k → 0 ≤ n → n ≤ 1000000000000 → ∃ l, dgs b n = ntI l ∧ pd b n = (prodN l : Int)
  | k, n, hk, h0, h1 => by
    by_cases h : b ≤ n
    · match k, hk with
      | 0, hk => omega
      | k + 1, hk =>
        have h2 := div_lt b n hb h
        have h3 := div_pos b n hb h
        obtain ⟨l, e1, e2⟩ := pd_nat b hb hb' k (n / b) (by omega) (by omega) (by omega)
        have hm0 := Int.emod_nonneg n (show b ≠ 0 by omega)
        refine ⟨l ++ [(n % b).toNat], ?_, ?_⟩
        · rw [dgs_bigA b n hb h, e1, ntI_snoc, show (((n % b).toNat : Nat) : Int) = n % b by omega]
        · rw [((pd_bd b hb hb' n.toNat n (Nat.le_refl _) h0 h1).2.2 h).2, e2, prodN_app, prodN, prodN, Nat.mul_one]
          rw [Int.natCast_mul, show (((n % b).toNat : Nat) : Int) = n % b by omega]
    · refine ⟨[n.toNat], ?_, ?_⟩
      · rw [dgs_smallA b n h]
        show [n] = [((n.toNat : Nat) : Int)]
        rw [show ((n.toNat : Nat) : Int) = n by omega]
      · rw [pd_small b n h0 h1 h, prodN, prodN, Nat.mul_one]
        omega
theorem ntI_inj : ∀ {l m : List Nat}, ntI l = ntI m → l = m
  | [], [], _ => rfl
  | [], m :: ms, h => by simp [ntI] at h
  | l :: ls, [], h => by simp [ntI] at h
  | l :: ls, m :: ms, h => by
    have h1 : ((l : Nat) : Int) = m ∧ ntI ls = ntI ms := by simpa [ntI] using h
    rw [ntI_inj h1.2, show l = m by omega]
theorem ntI_perm {l m : List Nat} (h : (ntI l).Perm (ntI m)) : l.Perm m := by
  have h2 := h.map Int.toNat
  have e : ∀ q : List Nat, (ntI q).map Int.toNat = q := fun q => by
    unfold ntI
    rw [List.map_map]
    exact (List.map_congr_left (fun x _ => by simp)).trans (List.map_id q)
  rw [e, e] at h2
  exact h2
theorem prodN_zero : ∀ {l : List Nat}, 0 < prodN l → ∀ d ∈ l, d ≠ 0
  | [], _, d, hd => by simp at hd
  | x :: l, h, d, hd => by
    rw [prodN] at h
    have hx : x ≠ 0 := fun e => by rw [e, Nat.zero_mul] at h; omega
    have hl : 0 < prodN l := Nat.pos_of_mul_pos_left h |> fun _ => by
      by_cases h2 : prodN l = 0
      · rw [h2, Nat.mul_zero] at h; omega
      · omega
    rcases List.mem_cons.1 hd with rfl | hd
    · exact hx
    · exact prodN_zero hl d hd

/-- The digits sorted make a number with the same root, if none is 0. -/
theorem sorted_root {b n : Int} (hb : 2 ≤ b) (hb' : b ≤ 16) (h0 : 0 ≤ n) (h1 : n ≤ 1000000000000) :
    ∃ m, numF b (srt (dgs b n)) 0 = some m ∧ 0 ≤ m ∧ m ≤ 1000000000000 ∧ (0 < pd b n → b ≤ n → lastD (pru b m) = lastD (pru b n)) := by
  obtain ⟨m, hm⟩ := sorted_some hb h0 h1
  have hd := dgs_all b n hb h0
  have hds : ∀ x ∈ srt (dgs b n), 0 ≤ x ∧ x ≤ b - 1 := fun x hx => hd x (srt_mem.1 hx)
  have hm2 := hm
  rw [numF_val b hb _ 0 (fun x hx => (hds x hx).1) (by omega) (by omega)] at hm2
  have hmv : val b (srt (dgs b n)) 0 = m ∧ m ≤ 1000000000000 := by
    by_cases hc : val b (srt (dgs b n)) 0 ≤ 1000000000000
    · rw [if_pos hc] at hm2
      have := Option.some.inj hm2
      exact ⟨this, by omega⟩
    · rw [if_neg hc] at hm2; cases hm2
  have hm0 : 0 ≤ m := by rw [← hmv.1]; exact val_ge b hb _ 0 (fun x hx => (hds x hx).1) (by omega)
  refine ⟨m, hm, hm0, hmv.2, fun hp hbn => ?_⟩
  obtain ⟨l, l1, l2⟩ := pd_nat b hb hb' n.toNat n (Nat.le_refl _) h0 h1
  have hnz := prodN_zero (l := l) (by omega)
  have hlen : 2 ≤ (dgs b n).length := by
    rw [dgs_bigA b n hb hbn, List.length_append]
    have : 1 ≤ (dgs b (n / b)).length := by
      by_cases h9 : b ≤ n / b
      · rw [dgs_bigA b _ hb h9, List.length_append]; simp
      · rw [dgs_smallA b _ h9]; simp
    simp
    omega
  have hsl : (srt (dgs b n)).length = (dgs b n).length := srt_len _
  have hdm : dgs b m = srt (dgs b n) := by
    rw [← hmv.1]
    refine dgs_val b hb _ _ rfl (fun e => by rw [e] at hsl; simp at hsl; omega) hds (.inr ?_)
    have hmem : (srt (dgs b n)).headD 0 ∈ srt (dgs b n) := by
      cases hs : srt (dgs b n) with
      | nil => rw [hs] at hsl; simp at hsl; omega
      | cons x xs => simp
    have h5 := srt_mem.1 hmem
    rw [l1] at h5
    obtain ⟨d, hd1, hd2⟩ := List.mem_map.1 h5
    have := hnz d hd1
    rw [l1]
    omega
  obtain ⟨l', l3, l4⟩ := pd_nat b hb hb' m.toNat m (Nat.le_refl _) hm0 hmv.2
  have hperm : l'.Perm l := by
    refine ntI_perm ?_
    rw [← l3, hdm, ← l1]
    exact List.mergeSort_perm _ _
  have hpd : pd b m = pd b n := by rw [l4, l2, prodN_perm hperm]
  have hbm : b ≤ m := by
    by_cases hc : b ≤ m
    · exact hc
    · have := dgs_smallA b m hc
      rw [hdm] at this
      rw [this] at hsl
      simp at hsl
      omega
  rw [pru_big hb hb' hm0 hmv.2 hbm, pru_big hb hb' h0 h1 hbn, hpd]
  have hpp : 1 ≤ (pru b (pd b n)).length := ru_pos _ _ _
  rw [lastD_cons hpp, lastD_cons hpp]

/-- The least number of a product has this product. -/
theorem lwp_prod {b p : Nat} {x : Int} (hb : 2 ≤ b) (hb' : b ≤ 16) (hp : 1 ≤ p) (hp2 : p ≤ 1000000000000) (h : lwp b p = some x) : 0 ≤ x ∧ x ≤ 1000000000000 ∧ pd (b : Int) x = (p : Int) ∧ smo (b : Int) (p : Int) = true := by
  by_cases h1 : p = 1
  · subst h1
    rw [lwp_one] at h
    have hx := Option.some.inj h
    subst hx
    refine ⟨by omega, by omega, pd_small _ _ (by omega) (by omega) (by omega), ?_⟩
    have := smo_list hb [] (fun d hd => by simp at hd)
    exact this
  · by_cases hc : ct b p = 0
    · rw [lwp_none h1 hc] at h; cases h
    · rw [lwp_some h1 hc] at h
      obtain ⟨g1, g2, g3, g4⟩ := gr_spec b p hp hc
      have hall : ∀ y ∈ ntI (gr b p), 0 ≤ y ∧ y ≤ (b : Int) - 1 := fun y hy => by
        obtain ⟨d, hd, rfl⟩ := List.mem_map.1 hy
        have := g1 d hd
        omega
      rw [numF_val (b : Int) (by omega) _ 0 (fun y hy => (hall y hy).1) (by omega) (by omega)] at h
      by_cases hv : val (b : Int) (ntI (gr b p)) 0 ≤ 1000000000000
      · rw [if_pos hv] at h
        have hx := Option.some.inj h
        have hx0 : 0 ≤ x := by rw [← hx]; exact val_ge (b : Int) (by omega) _ 0 (fun y hy => (hall y hy).1) (by omega)
        have hne : gr b p ≠ [] := fun e => by rw [e] at g2; exact h1 g2.symm
        have hdx : dgs (b : Int) x = ntI (gr b p) := by
          rw [← hx]
          refine dgs_val (b : Int) (by omega) _ _ rfl (fun e => hne (by cases hg : gr b p with | nil => rfl | cons a t => rw [hg] at e; simp [ntI] at e)) hall (.inr ?_)
          cases hg : gr b p with
          | nil => exact absurd hg hne
          | cons a t =>
            have := g1 a (by rw [hg]; simp)
            show ((a : Nat) : Int) ≠ 0
            omega
        obtain ⟨l, l1, l2⟩ := pd_nat (b : Int) (by omega) (by omega) x.toNat x (Nat.le_refl _) hx0 (by omega)
        rw [hdx] at l1
        rw [← ntI_inj l1, g2] at l2
        exact ⟨hx0, by omega, l2, smo_ct hb hp hc⟩
      · rw [if_neg hv] at h; cases h

/-- What is left of a smooth number are digits. -/
theorem dvo_list : ∀ (k : Nat) (d n : Int), n.toNat ≤ k → 2 ≤ d → 0 < n → ∃ l : List Nat, (∀ x ∈ l, (x : Int) = d) ∧ (prodN l : Int) * dvo d n = n ∧ 0 < dvo d n
  | 0, d, n, hk, hd, hn => by omega
  | k + 1, d, n, hk, hd, hn => by
    by_cases hm : n % d = 0
    · have h1 := div_pos0 hd hn hm
      have h2 := (div_less hd hn).2
      obtain ⟨l, a, c, e⟩ := dvo_list k d (n / d) (by omega) hd h1
      refine ⟨d.toNat :: l, fun x hx => ?_, ?_, by rw [dvo_step hd hn hm]; exact e⟩
      · rcases List.mem_cons.1 hx with rfl | hx
        · omega
        · exact a x hx
      · rw [dvo_step hd hn hm, prodN, Int.natCast_mul, Int.mul_assoc, c, show ((d.toNat : Nat) : Int) = d by omega]
        exact Int.mul_ediv_cancel' (Int.dvd_of_emod_eq_zero hm)
    · exact ⟨[], fun x hx => by simp at hx, by rw [dvo_end hm]; simp [prodN], by rw [dvo_end hm]; exact hn⟩
theorem smR_list : ∀ (k : Nat) (d n : Int), 2 ≤ d → 0 < n → ∃ l : List Nat, (∀ x ∈ l, d ≤ (x : Int) ∧ (x : Int) < d + k) ∧ (prodN l : Int) * smR k d n = n
  | 0, d, n, hd, hn => ⟨[], fun x hx => by simp at hx, by simp [prodN, smR]⟩
  | k + 1, d, n, hd, hn => by
    obtain ⟨l1, a1, c1, e1⟩ := dvo_list n.toNat d n (Nat.le_refl _) hd hn
    obtain ⟨l2, a2, c2⟩ := smR_list k (d + 1) (dvo d n) (by omega) e1
    refine ⟨l1 ++ l2, fun x hx => ?_, ?_⟩
    · rcases List.mem_append.1 hx with hx | hx
      · have := a1 x hx; omega
      · have := a2 x hx; omega
    · rw [prodN_app, Int.natCast_mul, Int.mul_assoc]
      show _ * (_ * smR k (d + 1) (dvo d n)) = n
      rw [c2, c1]
theorem smo_iff {b p : Nat} (hb : 2 ≤ b) (hp : 1 ≤ p) : smo (b : Int) (p : Int) = decide (0 < ct b p) := by
  by_cases hc : ct b p = 0
  · rw [decide_eq_false (show ¬ 0 < ct b p by omega)]
    cases hs : smo (b : Int) (p : Int) with
    | false => rfl
    | true =>
      exfalso
      have h1 : smR ((b : Int) - 2).toNat 2 (p : Int) = 1 := of_decide_eq_true hs
      obtain ⟨l, a, c⟩ := smR_list ((b : Int) - 2).toNat 2 (p : Int) (by omega) (by omega)
      rw [h1, Int.mul_one] at c
      have hl : prodN l = p := by omega
      have := ct_list b l (fun d hd => by have := a d hd; omega)
      rw [hl] at this
      exact this hc
  · rw [decide_eq_true (show 0 < ct b p by omega)]
    exact smo_ct hb hp hc
/-- The first number of a persistence has it. -/
theorem plp_has {k c r : Int} (h : PLP k c r) (ht : (decide (LPok k c) && (decide (k = 0) || decide (0 < r))) = true) : askI RPersistenceOf r c = some k := by
  have h1 : LPok k c ∧ (k = 0 ∨ 0 < r) := by simpa using ht
  obtain ⟨hok, hor⟩ := h1
  obtain ⟨⟨k0, k1⟩, hB⟩ := id hok
  obtain ⟨b0, b1⟩ := id hB
  unfold PLP at h
  rw [if_pos hok] at h
  by_cases hk0 : k = 0
  · rw [if_pos hk0] at h
    subst h
    unfold askI
    rw [if_pos ⟨⟨by omega, by omega⟩, hB⟩]
    unfold RPersistenceOf
    rw [pru_end (by omega), hk0]
    rfl
  · rw [if_neg hk0] at h
    by_cases hk1 : k = 1
    · rw [if_pos hk1] at h
      subst h
      unfold askI
      rw [if_pos ⟨⟨by omega, by omega⟩, hB⟩]
      have hd : pd r r = 0 := by
        rw [((pd_bd r b0 b1 r.toNat r (Nat.le_refl _) (by omega) (by omega)).2.2 (Int.le_refl _)).2]
        rw [Int.emod_self, Int.mul_zero]
      unfold RPersistenceOf
      rw [pru_big b0 b1 (by omega) (by omega) (Int.le_refl _), hd, pru_end (by omega), hk1]
      rfl
    · rw [if_neg hk1] at h
      rcases h with ⟨a1, _⟩ | ⟨a1, a2, a3, _⟩
      · omega
      · have h5 := (st_top b0).1 a2
        unfold askI
        rw [if_pos ⟨⟨by omega, by omega⟩, hB⟩]
        have h6 : perP c r = k := of_decide_eq_true a3
        exact congrArg some h6
end Go.Proofs.Ytgiabadkbfbilaa
