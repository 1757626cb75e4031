/-
  Joint text of UB, UC, UR: what each proves stands ahead of it.
-/
import Derived.Test.YtlbjeiaihenjkaaGreatDoorJ11
import Derived.Test.YtlbjeiaihenjkaaGreatDoorJ02
import Derived.Test.YtlbjeiaihenjkaaGreatDoorJ00
import Derived.Laws.CopyOwn
import Derived.BigRegion
/- from UB: Runs into cycles, from a number on: plain mathematics. Where numbers begin to fall.  -/
namespace Go.Proofs.YtlbjeiaihenjkaaGreatDoor
set_option linter.unusedVariables false
set_option linter.unusedSimpArgs false

/-- Is the number behind k + 1 steps among the k + 1 before it? -/
def bk (f : Nat → Nat) (x k : Nat) : Bool := (List.range (k + 1)).any fun i => it f i x == it f (k + 1) x
theorem bk_iff {f : Nat → Nat} {x k : Nat} : bk f x k = true ↔ ∃ i, i ≤ k ∧ it f i x = it f (k + 1) x := by
  simp only [bk, List.any_eq_true, List.mem_range, beq_iff_eq]
  constructor
  · rintro ⟨i, h1, h2⟩; exact ⟨i, by omega, h2⟩
  · rintro ⟨i, h1, h2⟩; exact ⟨i, by omega, h2⟩

/-- How many numbers a run has whose numbers behind the first are below M. -/
def rl (f : Nat → Nat) (M x : Nat) : Nat := fst (bk f x) M + 1
/-- How many of them are not on the cycle. -/
def tl (f : Nat → Nat) (M x : Nat) : Nat := fst (fun i => it f i x == it f (rl f M x) x) M

theorem rl_ex {f : Nat → Nat} {M x : Nat} (h : ∀ k, it f (k + 1) x < M) : ∃ k, k ≤ M ∧ bk f x k = true := by
  obtain ⟨i, j, h1, h2, h3⟩ := pigeon M (fun i => it f (i + 1) x) (fun i _ => h i)
  exact ⟨j, h2, bk_iff.2 ⟨i + 1, by omega, h3⟩⟩

theorem rl_spec {f : Nat → Nat} {M x : Nat} (h : ∀ k, it f (k + 1) x < M) : 1 ≤ rl f M x ∧ rl f M x ≤ M + 1 ∧ tl f M x < rl f M x ∧ it f (tl f M x) x = it f (rl f M x) x ∧
    (∀ i, i < tl f M x → it f i x ≠ it f (rl f M x) x) ∧ (∀ i j, i < j → j < rl f M x → it f i x ≠ it f j x) := by
  obtain ⟨h1, h2, h3⟩ := fst_spec M (bk f x) (rl_ex h)
  obtain ⟨i, h4, h5⟩ := bk_iff.1 h2
  have e : rl f M x = fst (bk f x) M + 1 := rfl
  obtain ⟨k1, k2, k3⟩ := fst_spec M (fun i => it f i x == it f (rl f M x) x) ⟨i, by omega, by rw [e]; simpa using h5⟩
  have k2' : it f (tl f M x) x = it f (rl f M x) x := eq_of_beq k2
  refine ⟨by omega, by omega, ?_, k2', ?_, ?_⟩
  · have : ¬ i < tl f M x := fun hi => by
      have h7 : (it f i x == it f (rl f M x) x) = false := k3 i hi
      rw [e, h5] at h7
      simp at h7
    omega
  · intro j hj he
    have h7 : (it f j x == it f (rl f M x) x) = false := k3 j hj
    rw [he] at h7
    simp at h7
  · intro a b hab hb he
    have := h3 (b - 1) (by omega)
    rw [← Bool.not_eq_true, bk_iff] at this
    exact this ⟨a, by omega, by rw [show b - 1 + 1 = b from by omega]; exact he⟩

/-- The run is over where a number comes again. -/
theorem rl_at {f : Nat → Nat} {M x k i : Nat} (h : ∀ k, it f (k + 1) x < M) (hk : k ≤ rl f M x) (hi : i < k) (he : it f i x = it f k x) : k = rl f M x ∧ i = tl f M x := by
  obtain ⟨h1, h2, h3, h4, h5, h6⟩ := rl_spec h
  have hk2 : k = rl f M x := by
    by_cases hlt : k < rl f M x
    · exact absurd he (h6 i k hi hlt)
    · omega
  subst hk2
  refine ⟨rfl, ?_⟩
  by_cases ha : i < tl f M x
  · exact absurd he (h5 i ha)
  · by_cases hb : tl f M x < i
    · exact absurd (h4.trans he.symm) (h6 _ _ hb hi)
    · omega

theorem rl_on {f : Nat → Nat} {M x k : Nat} (h : ∀ k, it f (k + 1) x < M) (hk : k ≤ rl f M x) (hn : ∀ i, i < k → it f i x ≠ it f k x) : k < rl f M x := by
  obtain ⟨h1, h2, h3, h4, h5, h6⟩ := rl_spec h
  by_cases he : k = rl f M x
  · subst he
    exact absurd h4 (hn _ h3)
  · omega

/-- The numbers of a run. -/
def run (f : Nat → Nat) (M x : Nat) : List Int := (List.range (rl f M x)).map fun j => ((it f j x : Nat) : Int)

/-- The bound of all numbers behind the first of a run. -/
def PM : Nat := 1012501
theorem it_ps {b p x : Nat} (hb : 2 ≤ b) (hb' : b ≤ 16) (hp : p ≤ 4) (hx : x ≤ 1000000000000) (k : Nat) : it (ps b p) (k + 1) x < PM := by
  have h : ∀ k, it (ps b p) k x ≤ 1000000000000 := by
    intro k
    induction k with
    | zero => exact hx
    | succ k ih => have := ps_le4 hb hb' hp ih; show ps b p (it (ps b p) k x) ≤ _; omega
  have := ps_le4 hb hb' hp (h k)
  show ps b p (it (ps b p) k x) < 1012501
  omega
theorem it_ps_le {b p x : Nat} (hb : 2 ≤ b) (hb' : b ≤ 16) (hp : p ≤ 4) (hx : x ≤ 1000000000000) : ∀ k, it (ps b p) k x ≤ 1000000000000
  | 0 => hx
  | k + 1 => by have := it_ps hb hb' hp hx k; unfold PM at this; omega

/-- Do numbers with k + 1 digits fall? -/
def fallsAt (b p k : Nat) : Bool := decide ((k + 1) * (b - 1) ^ p < b ^ k)
/-- The least number of digits from which on they do. -/
def ff (b p : Nat) : Nat := fst (fallsAt b p) 40 + 1
/-- The greatest power sum of the numbers with fewer digits. -/
def gs (b p : Nat) : Nat := (ff b p - 1) * (b - 1) ^ p

/-- A power, or 10^18 if it is greater. -/
def lim (x : Nat) : Nat → Nat → Nat
  | 0, out => out
  | p + 1, out => if 1000000000000000000 / x < out then 1000000000000000000 else lim x p (out * x)
/-- The model's search. -/
def fsp (b p : Nat) : Nat → Nat → Nat → Nat
  | 0, _, k => k
  | n + 1, last, k => fsp b p n (last + 1) (if lim b (last - 1) 1 ≤ last * (b - 1) ^ p then last + 1 else k)

def ffOk (b p : Nat) : Bool := decide (fsp b p 40 1 1 = ff b p) && fallsAt b p (ff b p - 1) && decide (2 ≤ ff b p) && decide (ff b p ≤ 40) && decide (b ^ (ff b p - 1) ≤ 1000000000000000) &&
  (List.range (ff b p - 1)).all (fun j => !fallsAt b p j)
theorem ff_allB : (List.range 15).all (fun b => (List.range 8).all fun p => ffOk (b + 2) (p + 1)) = true := by decide +kernel
theorem ff_all (b p : Nat) (hb : 2 ≤ b) (hb' : b ≤ 16) (hp : 1 ≤ p) (hp' : p ≤ 8) : fsp b p 40 1 1 = ff b p ∧ fallsAt b p (ff b p - 1) = true ∧ 2 ≤ ff b p ∧ ff b p ≤ 40 ∧ b ^ (ff b p - 1) ≤ 1000000000000000 ∧
    (List.range (ff b p - 1)).all (fun j => !fallsAt b p j) = true := by
  have h := ff_allB
  simp only [List.all_eq_true, List.mem_range] at h
  have h1 : ffOk (b - 2 + 2) (p - 1 + 1) = true := h (b - 2) (by omega) (p - 1) (by omega)
  rw [show b - 2 + 2 = b from by omega, show p - 1 + 1 = p from by omega] at h1
  unfold ffOk at h1
  simp only [Bool.and_eq_true, decide_eq_true_eq] at h1
  obtain ⟨⟨⟨⟨⟨a1, a2⟩, a3⟩, a4⟩, a5⟩, a6⟩ := h1
  exact ⟨a1, a2, a3, a4, a5, a6⟩

theorem ff_spec {b p : Nat} (hb : 2 ≤ b) (hb' : b ≤ 16) (hp : 1 ≤ p) (hp' : p ≤ 8) : 2 ≤ ff b p ∧ ff b p ≤ 40 ∧ ff b p * (b - 1) ^ p < b ^ (ff b p - 1) ∧ b ^ (ff b p - 1) ≤ 1000000000000000 ∧ (∀ j, 1 ≤ j → j < ff b p → b ^ (j - 1) ≤ j * (b - 1) ^ p) ∧ fsp b p 40 1 1 = ff b p := by
  obtain ⟨h1, h2, h3, h4, h5, h6⟩ := ff_all b p hb hb' hp hp'
  refine ⟨h3, h4, ?_, h5, fun j hj1 hj2 => ?_, h1⟩
  · simp only [fallsAt, decide_eq_true_eq] at h2
    rwa [show ff b p - 1 + 1 = ff b p from by omega] at h2
  · simp only [List.all_eq_true, List.mem_range, Bool.not_eq_true', fallsAt, decide_eq_false_iff_not] at h6
    have := h6 (j - 1) (by omega)
    rw [show j - 1 + 1 = j from by omega] at this
    omega

end Go.Proofs.YtlbjeiaihenjkaaGreatDoor

/- from UC: The model's powers, power sums, and where numbers fall.  -/
namespace Go.Proofs.YtlbjeiaihenjkaaGreatDoor
open Go.RowKit
set_option linter.unusedVariables false
set_option linter.unusedSimpArgs false

theorem pwOf_any (x p : Nat) (w : World) (hx : x ≤ 15) (hp : p ≤ 8) :
    Calls Tryz.prog 206 #[.int .i64 (x : Int), .int .i64 (p : Int)] w fun e w' => e = .returned (.int .i64 ((x ^ p : Nat) : Int)) ∧ w = w' := by
  obtain ⟨z, hz⟩ : ∃ z, z = x ^ p := ⟨_, rfl⟩
  have HZ := Lib.hid hz
  rw [← hz]
  clear hz
  go_enter Tryz.func206, Tryz.ntmps206
  go_wp2
  go_loop [1, 5] (fun c o => ∃ r k t : Nat, r + k = p ∧ x ^ k = t ∧ c = .int .i64 (r : Int) ∧ o = .int .i64 (t : Int)) (fun c _ => (intOf c).toNat)
  case atStart => exact ⟨p, 0, 1, rfl, rfl, rfl, rfl⟩
  case round =>
    obtain ⟨r, k, t, hk, ht, rfl, rfl⟩ := hrel
    have HT := Lib.hid ht
    clear ht
    by_cases hlt : 0 < r
    · have hs : x ^ (k + 1) ≤ 2562890625 := pow_le8 hx (by omega)
      obtain ⟨s, hs2⟩ : ∃ s, s = t * x := ⟨_, rfl⟩
      have HS := Lib.hid (show x ^ (k + 1) = s by rw [Nat.pow_succ, HT.out, hs2])
      have hts : (t : Int) * (x : Int) = (s : Int) := by rw [hs2]; push_cast; rfl
      have hsb : s ≤ 2562890625 := by rw [← HS.out]; exact hs
      clear hs hs2
      go_wp2
      go_round
      case rel => exact ⟨r - 1, k + 1, s, by omega, HS.out, by go_num, by first | rfl | rw [hts]⟩
      case measure => simp [intOf]; omega
    · obtain rfl : r = 0 := by omega
      have HE := Lib.hid (show t = z by rw [HZ.out, ← HT.out]; congr 1; omega)
      go_wp2
      go_ret
      exact ⟨by rw [HE.out]; rfl, rfl⟩

theorem lim_step (x r t : Nat) : lim x (r + 1) t = if 1000000000000000000 / x < t then 1000000000000000000 else lim x r (t * x) := rfl
theorem lim_mul {x t : Nat} (hx : 1 ≤ x) (h : t ≤ 1000000000000000000 / x) : t * x ≤ 1000000000000000000 := by
  have := Nat.mul_le_mul_right x h
  have h2 := Nat.div_mul_le_self 1000000000000000000 x
  omega

theorem pwLimited_any (x p : Nat) (w : World) (hx : 2 ≤ x) (hx' : x ≤ 16) (hp : p ≤ 100) :
    Calls Tryz.prog 208 #[.int .i64 (x : Int), .int .i64 (p : Int)] w fun e w' => ∃ t : Nat, t ≤ 1000000000000000000 ∧ lim x p 1 = t ∧ e = .returned (.int .i64 (t : Int)) ∧ w = w' := by
  have hz : ((x : Int) == 0) = false := beq_no (by omega)
  go_enter Tryz.func208, Tryz.ntmps208
  go_wp2
  go_loop [1, 5] (fun c o => ∃ r t : Nat, r ≤ p ∧ t ≤ 1000000000000000000 ∧ lim x r t = lim x p 1 ∧ c = .int .i64 (r : Int) ∧ o = .int .i64 (t : Int)) (fun c _ => (intOf c).toNat)
  case atStart => exact ⟨p, 1, Nat.le_refl _, by omega, rfl, rfl, rfl⟩
  case round =>
    obtain ⟨r, t, hr, ht, hl, rfl, rfl⟩ := hrel
    have HL := Lib.hid hl
    clear hl
    by_cases hlt : 0 < r
    · obtain ⟨q, hq⟩ : ∃ q, q + 1 = r := ⟨r - 1, by omega⟩
      subst hq
      obtain ⟨d, hd⟩ : ∃ d : Nat, d = 1000000000000000000 / x := ⟨_, rfl⟩
      have hdi : (1000000000000000000 : Int) / (x : Int) = (d : Int) := by rw [hd]; rfl
      have hd9 : d ≤ 1000000000000000000 := by rw [hd]; exact Nat.div_le_self _ _
      have HD := Lib.hid hd
      clear hd
      by_cases hgt : d < t
      · have HE := Lib.hid (show lim x p 1 = 1000000000000000000 by rw [← HL.out, lim_step, ← HD.out, if_pos hgt])
        have hgi : (d : Int) < (t : Int) := by omega
        go_wp2
        go_ret
        exact ⟨1000000000000000000, by omega, HE.out, rfl, rfl⟩
      · have hgi : ¬ (d : Int) < (t : Int) := by omega
        have HS := Lib.hid (show lim x q (t * x) = lim x p 1 by rw [← HL.out, lim_step, ← HD.out, if_neg hgt])
        have hb := lim_mul (x := x) (t := t) (by omega) (by rw [← HD.out]; omega)
        obtain ⟨s, hs⟩ : ∃ s, s = t * x := ⟨_, rfl⟩
        have hts : (t : Int) * (x : Int) = (s : Int) := by rw [hs]; push_cast; rfl
        rw [← hs] at hb HS
        clear hs
        go_wp2
        go_round
        case rel => exact ⟨q, s, by omega, hb, HS.out, by go_num, by first | rfl | rw [hts]⟩
        case measure => (simp [intOf]; try omega)
    · obtain rfl : r = 0 := by omega
      have HE := Lib.hid (show lim x p 1 = t by rw [← HL.out]; rfl)
      go_wp2
      go_ret
      exact ⟨t, ht, HE.out, rfl, rfl⟩

theorem fsp_step (b p n last k : Nat) : fsp b p (n + 1) last k = fsp b p n (last + 1) (if lim b (last - 1) 1 ≤ last * (b - 1) ^ p then last + 1 else k) := rfl

theorem pwFalls_any (b p : Nat) (w : World) (hb : 2 ≤ b) (hb' : b ≤ 16) (hp : 1 ≤ p) (hp' : p ≤ 8) :
    Calls Tryz.prog 156 #[.int .i64 (b : Int), .int .i64 (p : Int)] w fun e w' => e = .returned (.int .i64 ((ff b p : Nat) : Int)) ∧ w = w' := by
  have HF := Lib.hid (ff_spec hb hb' hp hp').2.2.2.2.2
  obtain ⟨u, hu⟩ : ∃ u, u = (b - 1) ^ p := ⟨_, rfl⟩
  have hub : u ≤ 2562890625 := by rw [hu]; exact pow_le8 (by omega) hp'
  have HU := Lib.hid hu
  have hb1 : (b : Int) - 1 = ((b - 1 : Nat) : Int) := by omega
  have HB1 := Lib.hid hb1
  have HPW := Lib.hid (show ∀ w' : World, Calls Tryz.prog 206 #[.int .i64 ((b : Int) - 1), .int .i64 (p : Int)] w' fun e w'' => e = .returned (.int .i64 (u : Int)) ∧ w'' = w' from fun w' => by
    rw [HB1.out]; exact (pwOf_any (b - 1) p w' (by omega) hp').mono (fun e w'' h => ⟨by rw [h.1, HU.out], h.2.symm⟩))
  obtain ⟨z, hz⟩ : ∃ z, z = ff b p := ⟨_, rfl⟩
  rw [← hz] at HF ⊢
  clear hz hu hb1
  go_enter Tryz.func156, Tryz.ntmps156
  go_wp2
  go_loop [5, 6] (fun kk c => ∃ m last k : Nat, m + last = 41 ∧ 1 ≤ last ∧ k ≤ 41 ∧ fsp b p m last k = z ∧ c = .int .i64 (last : Int) ∧ kk = .int .i64 (k : Int)) (fun _ c => 41 - (intOf c).toNat)
  case atStart => exact ⟨40, 1, 1, rfl, by omega, by omega, HF.out, rfl, rfl⟩
  case round =>
    obtain ⟨m, last, k, hm, hl1, hk, hf, rfl, rfl⟩ := hrel
    have HFF := Lib.hid hf
    clear hf
    by_cases hlt : last ≤ 40
    · obtain ⟨q, hq⟩ : ∃ q, q + 1 = m := ⟨m - 1, by omega⟩
      subst hq
      have hl0 : (last : Int) - 1 = ((last - 1 : Nat) : Int) := by omega
      have HL0 := Lib.hid hl0
      obtain ⟨s, hs⟩ : ∃ s, s = last * u := ⟨_, rfl⟩
      have hts : (last : Int) * (u : Int) = (s : Int) := by rw [hs]; push_cast; rfl
      have hsb : s ≤ 102515625000 := by rw [hs]; exact Nat.le_trans (Nat.mul_le_mul hlt hub) (by omega)
      have HST := Lib.hid (fsp_step b p q last k)
      rw [← HU.out, ← hs] at HST
      clear hl0 hs
      go_wp2_with (first | (go_at_call 206; refine (HPW.out _).mono ?_; rintro e w1 ⟨rfl, rfl⟩) | (go_at_call 208; rw [HL0.out]; refine (pwLimited_any b (last - 1) _ hb hb' (by omega)).mono ?_; rintro e w1 ⟨t, ht, hlim, rfl, rfl⟩; have HLIM := Lib.hid hlim; clear hlim))
      all_goals
        rw [HLIM.out] at HST
      · have HG := Lib.hid (show t ≤ s by omega)
        go_round
        case rel => exact ⟨q, last + 1, last + 1, by omega, by omega, by omega, by rw [← HFF.out, HST.out, if_pos HG.out], by go_num, by go_num⟩
        case measure => simp [intOf]; omega
      · have HG := Lib.hid (show ¬ t ≤ s by omega)
        go_round
        case rel => exact ⟨q, last + 1, k, by omega, by omega, by omega, by rw [← HFF.out, HST.out, if_neg HG.out], by go_num, rfl⟩
        case measure => simp [intOf]; omega
    · obtain rfl : m = 0 := by omega
      have HE := Lib.hid (show k = z from HFF.out)
      go_wp2
      go_ret
      exact ⟨by rw [HE.out]; rfl, rfl⟩

theorem pwSum_any (n b p : Nat) (w : World) (hn : n ≤ 1000000000000) (hb : 2 ≤ b) (hb' : b ≤ 16) (hp' : p ≤ 8) :
    Calls Tryz.prog 146 #[.int .i64 (n : Int), .int .i64 (b : Int), .int .i64 (p : Int)] w fun e w' => e = .returned (.int .i64 ((ps b p n : Nat) : Int)) ∧ w = w' := by
  have hz : ((b : Int) == 0) = false := beq_no (by omega)
  have hbd := ps_le8 hb hb' hp' hn
  obtain ⟨z, hzz⟩ : ∃ z, z = ps b p n := ⟨_, rfl⟩
  have HZ := Lib.hid hzz
  rw [← hzz] at hbd ⊢
  clear hzz
  go_enter Tryz.func146, Tryz.ntmps146
  go_wp2
  go_loop [0, 7] (fun c s => ∃ m t : Nat, m ≤ n ∧ ps b p m + t = z ∧ c = .int .i64 (m : Int) ∧ s = .int .i64 (t : Int)) (fun c _ => (intOf c).toNat)
  case atStart => exact ⟨n, 0, Nat.le_refl _, by rw [HZ.out]; rfl, rfl, rfl⟩
  case round =>
    obtain ⟨m, t, hm, hs, rfl, rfl⟩ := hrel
    have HS := Lib.hid hs
    clear hs
    by_cases hlt : 0 < m
    · have HST := Lib.hid (ps_step (b := b) (n := m) p hb hlt)
      have hd := Nat.div_lt_self hlt (show 1 < b by omega)
      have hr := Nat.mod_lt m (show b > 0 by omega)
      obtain ⟨r, hr2⟩ : ∃ r, r = m % b := ⟨_, rfl⟩
      obtain ⟨q, hq⟩ : ∃ q, q = m / b := ⟨_, rfl⟩
      have HR := Lib.hid (show (m : Int) % (b : Int) = (r : Int) by rw [hr2]; exact (Int.natCast_emod m b).symm)
      have HQ := (show (m : Int) / (b : Int) = (q : Int) by rw [hq]; exact (Int.natCast_ediv m b).symm)
      rw [← hr2] at hr HST
      rw [← hq] at hd HST
      obtain ⟨u, hu⟩ : ∃ u, u = r ^ p := ⟨_, rfl⟩
      have hub : u ≤ z := by rw [hu]; have h1 := HST.out; have h2 := HS.out; omega
      have hub2 : t + u ≤ z := by rw [hu]; have h1 := HST.out; have h2 := HS.out; omega
      have HPW := Lib.hid (show ∀ w' : World, Calls Tryz.prog 206 #[.int .i64 ((m : Int) % (b : Int)), .int .i64 (p : Int)] w' fun e w'' => e = .returned (.int .i64 (u : Int)) ∧ w'' = w' from fun w' => by
        rw [HR.out]; exact (pwOf_any r p w' (by omega) hp').mono (fun e w'' h => ⟨by rw [h.1, hu], h.2.symm⟩))
      have HN := Lib.hid (show ps b p q + (t + u) = z by rw [hu]; have h1 := HST.out; have h2 := HS.out; omega)
      clear hu hr2 hq
      go_wp2_with (go_at_call 206; refine (HPW.out _).mono ?_; rintro e w1 ⟨rfl, rfl⟩)
      go_round
      case rel => exact ⟨q, t + u, by omega, HN.out, by first | rfl | rw [HQ], by go_num⟩
      case measure => (simp [intOf]; try omega)
    · obtain rfl : m = 0 := by omega
      have HE := Lib.hid (show t = z by have := HS.out; rw [ps_zero] at this; omega)
      go_wp2
      go_ret
      exact ⟨by rw [HE.out]; rfl, rfl⟩

end Go.Proofs.YtlbjeiaihenjkaaGreatDoor

/- from UR: slices.Repeat of a list of one number, for the table of powers.  -/
namespace Go.Proofs.YtlbjeiaihenjkaaGreatDoor
open Go.RowKit
set_option linter.unusedVariables false
set_option linter.unusedSimpArgs false

theorem addr_addP (g o j : Nat) : (⟨g, o, none⟩ : Addr).add j = ⟨g, o + j, none⟩ := by
  unfold Addr.add
  split <;> simp_all

theorem wpList_mkP {w : World} {ops : Array Oper} {rest : List Oper} {o : Oper} {a : Act} {Q : Exit → Act → World → Prop} (hgd : o.guard = none) (l c : Operand) (ho : o.op = Op.makeSlice 220 l c)
    (kl kc : IntKind) (L C : Int) (n : Nat) (hl : a.eval l = .int kl L) (hc : a.eval c = .int kc C) (hL : L = (n : Int)) (hC : C = (n : Int)) (hn : n ≤ 17179869184)
    (h : ∀ w', Rd w' w.heap.size (.slice (some ⟨w.heap.size, 0, none⟩) n n) (List.replicate n 0) → w.grownBy w' none → Below w.heap.size w w' → wpList Tryz.prog ops Q rest (a.put o.dst (.slice (some ⟨w.heap.size, 0, none⟩) n n)) w') :
    wpList Tryz.prog ops Q (o :: rest) a w := by
  obtain ⟨i0, hi, hz0, hz1, hz2⟩ := info_parts info3
  refine wpList_make_full w hgd l c 220 ho w.heap.size 3 i0 (.int .i64 0) 1 Tryz.underlying220 hi hz0 hz1 kl kc L C n hl hc hL hC (by rw [hz2]; omega) (by unfold maxLen; omega) (Nat.le_refl _) ?_
  intro w' h2 h3
  refine h w' ?_ h3 ((Below.refl _ _).grown h3 (Nat.le_refl _) (fun k hk => by cases hk))
  unfold Rd
  rw [List.length_replicate, ← toList_made]
  exact h2

theorem sizeInt : (Tryz.prog.info? 3).map (·.size) = some 1 := by kernel_rfl

theorem mul_one_c (c : Nat) (hc : c ≤ 40) (w : World) : Calls Tryz.prog 279 #[.int .u64 1, .int .u64 (c : Int)] w fun e w' => e = .returned (.tuple #[.int .u64 0, .int .u64 (c : Int)]) ∧ w = w' := by
  have h1 : 1 * c / 18446744073709551616 = 0 := by omega
  have h2 : 1 * c % 18446744073709551616 = c := by omega
  refine (Tryz.bits_Mul 1 c (by decide) (by omega) w).mono ?_
  rintro e w' ⟨rfl, rfl⟩
  rw [h1, h2]
  exact ⟨rfl, rfl⟩

/-- A row made with room for just what it holds. -/
theorem Rd.row {w : World} {B g n : Nat} {xs : List Int} (h : Rd w B (.slice (some ⟨g, 0, none⟩) n n) xs) : w.heap[g]? = some (.cells (xs.map (Value.int .i64)).toArray 3 (0, 0)) := by
  obtain ⟨rfl, _⟩ := h.at
  rcases h.2 with ⟨h1, _⟩ | ⟨g', cap', cur, hv, hg, hh, hn, hm, hc, ht⟩
  · simp at h1
  · simp only [Value.slice.injEq, Option.some.injEq, Addr.mk.injEq, and_true, true_and] at hv
    obtain ⟨rfl, rfl⟩ := hv
    rw [hh]
    congr 2
    apply Array.ext'
    rw [← ht]
    simp at hc ht ⊢
    rw [List.take_of_length_le (by simp [hc])]

theorem rd_row {w : World} {B g n : Nat} {xs : List Int} (hB : B ≤ g) (hn : xs.length = n) (hm : n ≤ 1000000) (h : w.heap[g]? = some (.cells (xs.map (Value.int .i64)).toArray 3 (0, 0))) : Rd w B (.slice (some ⟨g, 0, none⟩) n n) xs := by
  subst hn
  refine ⟨by simp, .inr ⟨g, xs.length, _, rfl, hB, h, Nat.le_refl _, by unfold maxLen; omega, by simp, ?_⟩⟩
  rw [Nat.mul_one, List.take_of_length_le (by simp)]

theorem splice_rep (k m c : Nat) (d : Int) (h : k + m ≤ c) :
    splice ((List.replicate k d ++ List.replicate (c - k) (0 : Int)).map (Value.int .i64)) k (List.replicate m (Value.int .i64 d)) = (List.replicate (k + m) d ++ List.replicate (c - (k + m)) (0 : Int)).map (Value.int .i64) := by
  unfold splice
  simp only [List.map_append, List.map_replicate, List.length_replicate]
  rw [List.take_append_of_le_length (by simp), List.take_of_length_le (by simp), List.drop_append, List.drop_eq_nil_of_le (by simp), List.nil_append, List.drop_replicate, List.length_replicate, ← List.append_assoc, List.replicate_append_replicate]
  congr 2
  omega

set_option maxHeartbeats 1000000 in
theorem repeatP_any (g0 cap0 c B : Nat) (d : Int) (w : World) (h : Rd w B (.slice (some ⟨g0, 0, none⟩) 1 cap0) [d]) (hc : c ≤ 40) :
    Calls Tryz.prog 265 #[.slice (some ⟨g0, 0, none⟩) 1 cap0, .int .i64 (c : Int)] w fun e w' => ∃ u, e = .returned u ∧ Rd w' w.heap.size u (List.replicate c d) ∧ Below w.heap.size w w' := by
  have H := Lib.hid h
  have hd : w.cell? ⟨g0, 0, none⟩ = some (.int .i64 d) := h.at.2.2.2.2.1 0 (by simp)
  have hg0 := h.at.2.2.1
  clear h
  by_cases hc0 : c = 0
  · have hc1 : c ≤ 0 := by omega
    have HC0 := Lib.hid hc0
    have hmin : Nat.min 1 c = 0 := by rw [hc0]; rfl
    have HMin := Lib.hid hmin
    clear hc0 hmin
    go_enter Tryz.func265, Tryz.ntmps265
    go_wp2_with fail
    refine (mul_one_c c hc _).mono ?_
    rintro e w1 ⟨rfl, rfl⟩
    go_wp2_with (first | (at_make; refine wpList_mkP rfl _ _ rfl .i64 .i64 _ _ c rfl rfl rfl rfl (by omega) ?_; intro w1 hr1 hg1 hb1; have R1 := Lib.hid hr1; have B1 := Lib.hid hb1; clear hr1 hg1 hb1) | (with_reducible refine wpList_copy_nothing rfl (.tmp 31) (.tmp 32) 220 220 rfl 3 Tryz.underlying220 sizeInt _ _ _ _ _ _ rfl rfl HMin.out ?_))
    refine wp_loop_rounds 1 ?_
    rw [rounds_succ]
    go_wp2
    go_ret
    have R2 := R1.out
    exact ⟨_, rfl, by rw [HC0.out] at R2 ⊢; exact R2, B1.out⟩
  · have hc1 : 1 ≤ c := by omega
    clear hc0
    go_enter Tryz.func265, Tryz.ntmps265
    go_wp2_with fail
    refine (mul_one_c c hc _).mono ?_
    rintro e w1 ⟨rfl, rfl⟩
    go_wp2_with (first | (at_make; refine wpList_mkP rfl _ _ rfl .i64 .i64 _ _ c rfl rfl rfl rfl (by omega) ?_; intro w1 hr1 hg1 hb1; have ROW1 := Lib.hid hr1.row; have H1 := Lib.hid (H.out.keep hb1); have B1 := Lib.hid hb1; clear hr1 hg1 hb1) | (with_reducible refine wpList_copy_splice rfl (.tmp 31) (.tmp 32) 220 220 rfl 3 Tryz.underlying220 sizeInt _ _ _ _ _ _ rfl rfl w.heap.size 0 _ 3 ROW1.out [.int .i64 d] ?n1 ?p1 ?f1 ?o1 w.heap.size w B1.out (Nat.le_refl _) ?_))
    case n1 => show 1 = Nat.min 1 c; rw [show Nat.min 1 c = 1 from Nat.min_eq_left hc1]
    case p1 =>
      intro j v hj
      match j, hj with
      | 0, hj => simp at hj; subst hj; exact H1.out.at.2.2.2.2.1 0 (by simp)
    case f1 => simp; try omega
    case o1 => intro v hv; simp at hv; subst hv; rfl
    · intro w2 hrow2 hb2
      have ROW2 := Lib.hid (show w2.heap[w.heap.size]? = some (.cells ((List.replicate 1 d ++ List.replicate (c - 1) (0 : Int)).map (Value.int .i64)).toArray 3 (0, 0)) by
        have h2 := hrow2.out
        rw [h2]
        congr 3
        obtain ⟨c', rfl⟩ : ∃ c', c = c' + 1 := ⟨c - 1, by omega⟩
        simp [splice, List.replicate_succ])
      have B2 := Lib.hid hb2
      clear hrow2 hb2
      go_wp2
      go_loopw [8] (fun n wr => ∃ k : Nat, 1 ≤ k ∧ k ≤ c ∧ n = .int .i64 (k : Int) ∧ wr.heap[w.heap.size]? = some (.cells ((List.replicate k d ++ List.replicate (c - k) (0 : Int)).map (Value.int .i64)).toArray 3 (0, 0)) ∧ Below w.heap.size w wr) (fun n _ => c - (intOf n).toNat)
      case atStart => exact ⟨1, by omega, hc1, rfl, ROW2.out, B2.out⟩
      case round =>
        obtain ⟨k, k1, k2, rfl, hrow, hb⟩ := hrel
        have ROW := Lib.hid hrow
        have HB := Lib.hid hb
        clear hrow hb
        by_cases hlt : k < c
        · obtain ⟨m, hm⟩ : ∃ m, m = Nat.min k (c - k) := ⟨_, rfl⟩
          have hm1 : m ≤ k := by rw [hm]; exact Nat.min_le_left _ _
          have hm2 : m ≤ c - k := by rw [hm]; exact Nat.min_le_right _ _
          have hm3 : 1 ≤ m := by rw [hm]; exact Nat.le_min.2 ⟨k1, by omega⟩
          have s1 := Lib.hid (show (List.replicate m (Value.int .i64 d)).length = Nat.min k (c - k) by rw [List.length_replicate, hm])
          have s2 := Lib.hid (show 0 < (List.replicate m (Value.int .i64 d)).length → ∃ ad, some (⟨w.heap.size, 0, none⟩ : Addr) = some ad ∧ ∀ j v, (List.replicate m (Value.int .i64 d))[j]? = some v → wr.drew.cell? (ad.add j) = some v by
            refine fun _ => ⟨⟨w.heap.size, 0, none⟩, rfl, ?_⟩
            intro j v hj
            have hjm : j < m := by have := (List.getElem?_eq_some_iff.1 hj).1; simpa using this
            rw [List.getElem?_replicate, if_pos hjm] at hj
            rw [addr_addP, Nat.zero_add]
            show wr.cell? _ = _
            rw [cell_of_row wr w.heap.size j _ 3 (0, 0) ROW.out, ← hj]
            rw [List.getElem?_toArray, List.getElem?_map, List.getElem?_append_left (by simp; omega), List.getElem?_replicate, if_pos (by omega)]
            rfl)
          have s3 := Lib.hid (show k + (List.replicate m (Value.int .i64 d)).length ≤ ((List.replicate k d ++ List.replicate (c - k) (0 : Int)).map (Value.int .i64)).length by simp; omega)
          have s4 := Lib.hid (show ∀ v ∈ List.replicate m (Value.int .i64 d), v.oneCell' = true by intro v hv; rw [(List.mem_replicate.1 hv).2]; rfl)
          have s5 := Lib.hid (show Below w.heap.size w wr.drew from HB.out.drew)
          have s6 := Lib.hid (show wr.drew.heap[w.heap.size]? = some (.cells ((List.replicate k d ++ List.replicate (c - k) (0 : Int)).map (Value.int .i64)).toArray 3 (0, 0)) from ROW.out)
          have HM := Lib.hid hm
          have hck : ¬ c = k := by omega
          clear hm
          have hwr : IntKind.i64.wrap ((k : Int) + (m : Int)) = (k : Int) + (m : Int) := IntWalk.i64_in _ (by omega)
          go_wp2
          go_region_law (refine step_copy_splice rfl (.tmp 41) (.tmp 44) 220 220 rfl 3 Tryz.underlying220 sizeInt (some ⟨w.heap.size, k, none⟩) (some ⟨w.heap.size, 0, none⟩) (c - k) (c - k) k c (by simp [Act.eval, Act.put]) (by simp [Act.eval, Act.put]) w.heap.size k _ 3 s6.out (List.replicate m (.int .i64 d)) s1.out (fun h => ⟨rfl, s2.out h⟩) s3.out s4.out w.heap.size w s5.out (Nat.le_refl _) ?_; intro w5 hrow5 hb5; have ROW5 := Lib.hid hrow5.out; have HB5 := Lib.hid hb5; clear hrow5 hb5)
          clear hwr
          go_simp
          go_wp2
          go_roundw
          case rel =>
            refine ⟨k + m, by omega, by omega, by go_num, ?_, HB5.out⟩
            rw [ROW5.out, splice_rep k m c d (by omega)]
          case measure => simp [intOf]; omega
        · obtain rfl : k = c := by omega
          go_wp2
          go_ret
          have h3 := ROW.out
          rw [Nat.sub_self, List.replicate_zero, List.append_nil] at h3
          exact ⟨_, rfl, rd_row (Nat.le_refl _) (by simp) (by omega) h3, HB.out⟩

end Go.Proofs.YtlbjeiaihenjkaaGreatDoor
