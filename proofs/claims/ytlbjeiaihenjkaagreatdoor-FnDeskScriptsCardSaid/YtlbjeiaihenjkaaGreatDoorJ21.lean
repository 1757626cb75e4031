/-
  Joint text of VF, CM, D2: what each proves stands ahead of it.
-/
import Derived.Test.YtlbjeiaihenjkaaGreatDoorJ20
import Derived.Test.YtlbjeiaihenjkaaGreatDoorJ13
import Derived.Test.YtlbjeiaihenjkaaGreatDoorJ17
import Derived.Test.YtlbjeiaihenjkaaGreatDoorJ01
/- from VF: Answers: numbers that are their own power sums.  -/
namespace Go.Proofs.YtlbjeiaihenjkaaGreatDoor
open Go.RowKit
set_option linter.unusedVariables false
set_option linter.unusedSimpArgs false
set_option maxRecDepth 100000

def OKO (b p : Int) : Bool := decide (Bas10 b ∧ Pow p 6)
def LF_OwnPowers (b p : Int) : List Int := if OKO b p = true then ownL b.toNat p.toNat else []
theorem oko_cases (b p : Int) : (OKO b p = true ∧ ∃ B P : Nat, b = (B : Int) ∧ p = (P : Int) ∧ 2 ≤ B ∧ B ≤ 10 ∧ 1 ≤ P ∧ P ≤ 6) ∨ OKO b p = false := by
  cases h : OKO b p
  · exact .inr rfl
  · obtain ⟨h2, h3⟩ := of_decide_eq_true h
    obtain ⟨h2a, h2b⟩ := h2
    obtain ⟨h3a, h3b⟩ := h3
    exact .inl ⟨rfl, b.toNat, p.toNat, by omega, by omega, by omega, by omega, by omega, by omega⟩
theorem LF_OwnPowers_len (b p : Int) : (LF_OwnPowers b p).length ≤ 2000000 := by
  unfold LF_OwnPowers
  rcases oko_cases b p with ⟨h, B, P, rfl, rfl, h1, h2, h3, h4⟩ | h
  · rw [if_pos h]
    have := ownL_len h1 h2 h3 h4
    show (ownL B P).length ≤ _
    omega
  · rw [h]; simp

/-- What is found with up to K digits are all numbers that are their own power sums. -/
theorem fnd_places {b p : Nat} (hb : 2 ≤ b) (hb' : b ≤ 16) (hp : 1 ≤ p) (hp' : p ≤ 8) (z : Int) : (∃ j, 1 ≤ j ∧ j < places b p + 1 ∧ Fnd b p j (b - 1) 0 (List.replicate b 0) z) ↔ z ∈ ownL b p := by
  rw [ownL_mem hb hb' hp hp']
  constructor
  · rintro ⟨j, _, _, h⟩
    obtain ⟨X, h1, h2, _⟩ := (fnd_all hb hp z).1 h
    exact ⟨X, h1, h2⟩
  · rintro ⟨X, rfl, hX⟩
    have h2 := (ff_spec hb hb' hp hp').1
    have hl := dgs_lenb (k := places b p) hb (by unfold places; omega) (own_lt hb hb' hp hp' hX)
    exact ⟨_, dgs_pos _ _, by omega, (fnd_all hb hp _).2 ⟨X, rfl, hX, rfl⟩⟩

theorem try_first (gw b p B : Nat) (hb : 2 ≤ b) (hb' : b ≤ 10) (hp : 1 ≤ p) (hp' : p ≤ 6) (n gc cc : Nat) (v : Value) (fs : List Int) (w : World) (hn : n ≤ 8)
    (hS : Srch w gw b p v) (hF : Rd w B v fs) (hR : fs.Pairwise (· < ·)) (hO : ∀ z ∈ fs, z ∈ ownL b p) (hC : Rd w B (.slice (some ⟨gc, 0, none⟩) b cc) (List.replicate b 0)) (hB : B ≤ w.heap.size) (c : Nat) (hc : c = b - 1) :
    Calls Tryz.prog 157 #[.pointer (some ⟨gw, 0, none⟩), .int .i64 (n : Int), .int .i64 (c : Int), .int .i64 0, .slice (some ⟨gc, 0, none⟩) b cc] w fun e w' => e = .returned (.tuple #[]) ∧
      ∃ v' fs', Srch w' gw b p v' ∧ Rd w' B v' fs' ∧ fs'.Pairwise (· < ·) ∧ (∀ z, z ∈ fs' ↔ z ∈ fs ∨ Fnd b p n (b - 1) 0 (List.replicate b 0) z) ∧ (∀ z ∈ fs', z ∈ ownL b p) ∧ w.grownBy w' (some gw) := by
  subst hc
  refine (try_any gw b p B hb hb' hp hp' n (b - 1) gc cc [] v fs w (by omega) (fun d hd => by simp at hd) (by simp; omega) hS hF hR hO hC hB).mono ?_
  rintro e w' ⟨rfl, v', fs', h1, h2, h3, h4, h5⟩
  refine ⟨rfl, v', fs', h1, h2, h3, h4, fun z hz => ?_, h5⟩
  rcases (h4 z).1 hz with h | h
  · exact hO z h
  · exact fnd_own hb (by omega) hp (by omega) (ds := []) (fun d hd => by simp at hd) (show b - 1 < b by omega) h

theorem spec_OwnPowers (b p : Int) (w : World) :
    Calls Tryz.prog 106 #[.int .i64 b, .int .i64 p] w fun e w' => ∃ u, e = .returned (.tuple #[u, .bool (OKO b p)]) ∧ Rd w' w.heap.size u (LF_OwnPowers b p) ∧ Below w.heap.size w w' := by
  rcases oko_cases b p with ⟨hok, B, P, rfl, rfl, h1, h2, h3, h4⟩ | hn
  · have HO := Lib.hid hok
    have HL := Lib.hid (show LF_OwnPowers (B : Int) (P : Int) = ownL B P by unfold LF_OwnPowers; rw [if_pos hok]; rfl)
    have a2 : decide (Pow (P : Int) 6) = true := decide_eq_true ⟨by omega, by omega⟩
    have m0 : (2 : Int) ≤ (B : Int) := by omega
    have m1 : (B : Int) ≤ 10 := by omega
    have hf2 := (ff_spec h1 (show B ≤ 16 by omega) h3 (show P ≤ 8 by omega)).1
    have hf3 := places_bd h1 h2 h3 h4
    have HFP := Lib.hid (fnd_places h1 (show B ≤ 16 by omega) h3 (show P ≤ 8 by omega))
    have HFL := Lib.hid (show ∀ w' : World, Calls Tryz.prog 156 #[.int .i64 (B : Int), .int .i64 (P : Int)] w' fun e w'' => e = .returned (.int .i64 ((ff B P : Nat) : Int)) ∧ w'' = w' from fun w' => (pwFalls_any B P w' h1 (by omega) h3 (by omega)).mono (fun e w'' h => ⟨h.1, h.2.symm⟩))
    obtain ⟨K, hK⟩ : ∃ K, K = places B P := ⟨_, rfl⟩
    obtain ⟨z, hz⟩ : ∃ z, z = ff B P := ⟨_, rfl⟩
    have hzK : z = K + 1 := by rw [hK, hz]; unfold places; omega
    rw [← hz] at HFL
    rw [← hK] at HFP hf3
    obtain ⟨c, hc⟩ : ∃ c, c = B - 1 := ⟨_, rfl⟩
    have hb1 : (B : Int) - 1 = (c : Int) := by omega
    have HCC := Lib.hid hc
    have HS0 := Lib.hid (show Srch (w.alloc (.cells #[.int .i64 (B : Int), .int .i64 (P : Int), .slice none 0 0] 169)) w.heap.size B P (.slice none 0 0) from heap_alloc_new w _)
    have HZK := Lib.hid hzK
    clear hok hK hz hc hzK hf2
    go_enter Tryz.func106, Tryz.ntmps106
    go_wp2_with (first | (go_at_call 140; refine (l1In_yes _ _ _ _ m0 m1).mono ?_; rintro e w1 ⟨rfl, rfl⟩) | (go_at_call 145; refine (pwPower_any _ _ _).mono ?_; rintro e w1 ⟨rfl, rfl⟩))
    go_loopw [7] (fun i wr => ∃ (k : Nat) (v : Value) (fs : List Int), 1 ≤ k ∧ k ≤ K + 1 ∧ i = .int .i64 (k : Int) ∧ Srch wr w.heap.size B P v ∧ Rd wr w.heap.size v fs ∧ fs.Pairwise (· < ·) ∧ (∀ z ∈ fs, z ∈ ownL B P) ∧ Hid (∀ z, z ∈ fs ↔ ∃ j, 1 ≤ j ∧ j < k ∧ Fnd B P j (B - 1) 0 (List.replicate B 0) z) ∧ Below w.heap.size w wr) (fun i _ => K + 1 - (intOf i).toNat)
    case atStart => exact ⟨1, _, [], by omega, by omega, rfl, HS0.out, Rd.nil _ _, List.Pairwise.nil, fun z hz => by simp at hz, Lib.hid (fun z => ⟨fun h => by simp at h, fun ⟨j, a1, a2, _⟩ => absurd a1 (by omega)⟩), alloc_below _ _⟩
    case round =>
      obtain ⟨k, v, fs, k1, kK, rfl, hS', hF', hR', hO', HM, hbl⟩ := hrel
      have HSr := Lib.hid hS'
      have HFr := Lib.hid hF'
      have HRr := Lib.hid hR'
      have HOr := Lib.hid hO'
      have HB := Lib.hid hbl
      have hsz := hbl.size
      clear hS' hF' hR' hO' hbl
      by_cases hlt : k < K + 1
      · have hkz : k < z := by have := HZK.out; omega
        go_wp2_with (first | (go_at_call 156; refine (HFL.out _).mono ?_; rintro e w1 ⟨rfl, rfl⟩) | (at_make; refine wpList_mkR rfl _ _ rfl .i64 .i64 _ _ B rfl rfl rfl rfl (by omega) ?_; intro w1 hr1 hg1 hb1; have R1 := Lib.hid (hr1.mono hsz); have B1 := Lib.hid (Below.step HB.out hsz hb1); have S1 := Lib.hid (HSr.out.keep hb1); have F1 := Lib.hid (HFr.out.keep hb1); clear hr1 hg1 hb1))
        refine (try_first _ B P w.heap.size h1 h2 h3 h4 k _ _ v fs _ (by omega) S1.out F1.out HRr.out HOr.out R1.out B1.out.size c HCC.out).mono ?_
        rintro e w3 ⟨rfl, v3, fs3, hS3, hF3, hR3, hM3, hO3, hg3⟩
        have S3 := Lib.hid hS3
        have F3 := Lib.hid hF3
        have R3 := Lib.hid hR3
        have O3 := Lib.hid hO3
        have HMN := Lib.hid (show ∀ z, z ∈ fs3 ↔ ∃ j, 1 ≤ j ∧ j < k + 1 ∧ Fnd B P j (B - 1) 0 (List.replicate B 0) z from fun z => by
          rw [hM3 z, HM.out z]
          constructor
          · rintro (⟨j, a1, a2, h⟩ | h)
            · exact ⟨j, a1, by omega, h⟩
            · exact ⟨k, k1, by omega, h⟩
          · rintro ⟨j, a1, a2, h⟩
            by_cases e : j = k
            · subst e; exact .inr h
            · exact .inl ⟨j, a1, by omega, h⟩)
        have B3 := Lib.hid (B1.out.trans (gw_below' hg3 (Nat.le_refl _) B1.out.size))
        clear hS3 hF3 hR3 hM3 hO3 hg3
        go_wp2
        go_roundw
        case rel => exact ⟨k + 1, v3, fs3, by omega, by omega, by go_num, S3.out, F3.out, R3.out, O3.out, HMN, B3.out⟩
        case measure => simp [intOf]; omega
      · obtain rfl : k = K + 1 := by omega
        have hkz : ¬ K + 1 < z := by have := HZK.out; omega
        have HE := Lib.hid (show fs = ownL B P from rise_unique HRr.out (cano_rise _) (fun z => (HM.out z).trans (HFP.out z)))
        have hcf := HSr.out.c2
        obtain ⟨a, c4, rfl⟩ := HFr.out.sl.len
        have hK2 : z = K + 1 := HZK.out
        have hzi : (z : Int) = (K : Int) + 1 := by omega
        clear hK2
        go_wp2_with (go_at_call 156; refine (HFL.out _).mono ?_; rintro e w1 ⟨rfl, rfl⟩)
        go_ret2
        exact ⟨_, by rw [HO.out]; rfl, by rw [HL.out, ← HE.out]; exact HFr.out, HB.out⟩
  · have HO := Lib.hid hn
    have HL := Lib.hid (show LF_OwnPowers b p = [] by unfold LF_OwnPowers; rw [hn]; rfl)
    have hnot := of_decide_eq_false hn
    by_cases hb : 2 ≤ b ∧ b ≤ 10
    · obtain ⟨m0, m1⟩ := hb
      have a2 : decide (Pow p 6) = false := decide_eq_false (fun h => hnot ⟨⟨m0, m1⟩, h⟩)
      clear hn hnot
      go_enter Tryz.func106, Tryz.ntmps106
      go_wp2_with (first | (go_at_call 140; refine (l1In_yes _ _ _ _ m0 m1).mono ?_; rintro e w1 ⟨rfl, rfl⟩) | (go_at_call 145; refine (pwPower_any _ _ _).mono ?_; rintro e w1 ⟨rfl, rfl⟩))
      go_ret2
      exact ⟨_, by rw [HO.out]; rfl, by rw [HL.out]; exact Rd.nil _ _, Below.refl _ _⟩
    · have H := Lib.hid (show b < 2 ∨ 10 < b by omega)
      clear hn hnot hb
      go_enter Tryz.func106, Tryz.ntmps106
      go_wp2_with (go_at_call 140; refine (l1In_no _ _ _ _ H.out).mono ?_; rintro e w1 ⟨rfl, rfl⟩)
      go_ret2
      exact ⟨_, by rw [HO.out]; rfl, by rw [HL.out]; exact Rd.nil _ _, Below.refl _ _⟩

theorem own_yes (B P : Nat) (w : World) (h1 : 2 ≤ B) (h2 : B ≤ 10) (h3 : 1 ≤ P) (h4 : P ≤ 6) :
    Calls Tryz.prog 190 #[.int .i64 (B : Int), .int .i64 (P : Int)] w fun e w' => ∃ gu cu, e = .returned (.tuple #[.slice (some ⟨gu, 0, none⟩) (ownL B P).length cu, .bool true]) ∧ Rd w' w.heap.size (.slice (some ⟨gu, 0, none⟩) (ownL B P).length cu) (ownL B P) ∧ Below w.heap.size w w' := by
  have a2 : decide (Bas10 (B : Int)) = true := decide_eq_true ⟨by omega, by omega⟩
  have a3 : decide (Pow (P : Int) 6) = true := decide_eq_true ⟨by omega, by omega⟩
  go_enter Tryz.func190, Tryz.ntmps190
  go_wp2_with (first | (go_at_call 245; refine (isSearchedBase_any _ _).mono ?_; rintro e w1 ⟨rfl, rfl⟩) | (go_at_call 242; refine (isPower_any _ _ _).mono ?_; rintro e w1 ⟨rfl, rfl⟩))
  refine (powersOf_any B P _ (by omega) (by omega) (by omega) (by omega)).mono ?_
  rintro e w1 ⟨g, c, rfl, hg, hT, hB⟩
  have HT := Lib.hid hT
  have HB := Lib.hid hB
  clear hg hT hB
  go_wp2_with fail
  refine (ownP_any g c B P _ HT.out h1 h2 h3 h4).mono ?_
  rintro e w2 ⟨gu, cu, rfl, hr, hb2⟩
  have HR := Lib.hid (hr.mono HB.out.size)
  have HB2 := Lib.hid (Below.step HB.out HB.out.size hb2)
  clear hr hb2
  go_wp2
  go_ret2
  exact ⟨gu, cu, rfl, HR.out, HB2.out⟩

theorem own_no (b p : Int) (w : World) (hn : OKO b p = false) :
    Calls Tryz.prog 190 #[.int .i64 b, .int .i64 p] w fun e w' => e = .returned (.tuple #[.slice none 0 0, .bool false]) ∧ w = w' := by
  have hnot := of_decide_eq_false hn
  by_cases hb : Bas10 b
  · have a2 : decide (Bas10 b) = true := decide_eq_true hb
    have a3 : decide (Pow p 6) = false := decide_eq_false (fun h => hnot ⟨hb, h⟩)
    clear hn hnot hb
    go_enter Tryz.func190, Tryz.ntmps190
    go_wp2_with (first | (go_at_call 245; refine (isSearchedBase_any _ _).mono ?_; rintro e w1 ⟨rfl, rfl⟩) | (go_at_call 242; refine (isPower_any _ _ _).mono ?_; rintro e w1 ⟨rfl, rfl⟩))
    go_ret2
    exact ⟨rfl, rfl⟩
  · have a2 : decide (Bas10 b) = false := decide_eq_false hb
    clear hn hnot hb
    go_enter Tryz.func190, Tryz.ntmps190
    go_wp2_with (go_at_call 245; refine (isSearchedBase_any _ _).mono ?_; rintro e w1 ⟨rfl, rfl⟩)
    go_ret2
    exact ⟨rfl, rfl⟩

theorem impl_OwnPowers (b p : Int) (w : World) :
    Calls Tryz.prog 190 #[.int .i64 b, .int .i64 p] w fun e w' => ∃ u, e = .returned (.tuple #[u, .bool (OKO b p)]) ∧ Rd w' w.heap.size u (LF_OwnPowers b p) ∧ Below w.heap.size w w' := by
  rcases oko_cases b p with ⟨hok, B, P, rfl, rfl, h1, h2, h3, h4⟩ | hn
  · have HL : LF_OwnPowers (B : Int) (P : Int) = ownL B P := by unfold LF_OwnPowers; rw [if_pos hok]; rfl
    refine (own_yes B P w h1 h2 h3 h4).mono ?_
    rintro e w' ⟨gu, cu, rfl, hr, hb⟩
    exact ⟨_, by rw [hok], by rw [HL]; exact hr, hb⟩
  · have HL : LF_OwnPowers b p = [] := by unfold LF_OwnPowers; rw [hn]; rfl
    refine (own_no b p w hn).mono ?_
    rintro e w' ⟨rfl, rfl⟩
    exact ⟨_, by rw [hn], by rw [HL]; exact Rd.nil _ _, Below.refl _ _⟩

end Go.Proofs.YtlbjeiaihenjkaaGreatDoor

/- from CM: How many ways digits can stand in: binomial numbers, plain mathematics.  -/
namespace Go.Proofs.YtlbjeiaihenjkaaGreatDoor
set_option linter.unusedVariables false
set_option linter.unusedSimpArgs false

def fac : Nat → Nat
  | 0 => 1
  | n + 1 => (n + 1) * fac n
def bin : Nat → Nat → Nat
  | _, 0 => 1
  | 0, _ + 1 => 0
  | n + 1, k + 1 => bin n k + bin n (k + 1)

theorem fac_pos (n : Nat) : 0 < fac n := by
  induction n with
  | zero => decide
  | succ n ih => exact Nat.mul_pos (by omega) ih

theorem bin_zero (n : Nat) : bin n 0 = 1 := by cases n <;> rfl
theorem bin_gt : ∀ (n k : Nat), n < k → bin n k = 0 := by
  intro n
  induction n with
  | zero => intro k h; cases k with
    | zero => omega
    | succ k => rfl
  | succ n ih => intro k h; cases k with
    | zero => omega
    | succ k => rw [bin, ih k (by omega), ih (k + 1) (by omega)]
theorem bin_self (n : Nat) : bin n n = 1 := by
  induction n with
  | zero => rfl
  | succ n ih => rw [bin, ih, bin_gt n (n + 1) (by omega)]

/-- A row's steps. -/
theorem bin_up : ∀ (n k : Nat), bin (n + 1) (k + 1) * (k + 1) = bin n k * (n + 1) := by
  intro n
  induction n with
  | zero =>
    intro k
    cases k with
    | zero => rfl
    | succ k => simp [bin]
  | succ n ih =>
    intro k
    cases k with
    | zero =>
      have h := ih 0
      simp only [Nat.zero_add, Nat.mul_one, bin_zero] at h ⊢
      rw [bin, h, bin_zero]
      omega
    | succ k =>
      have h1 := ih k
      have h2 := ih (k + 1)
      have e1 : bin (n + 1 + 1) (k + 1 + 1) = bin (n + 1) (k + 1) + bin (n + 1) (k + 1 + 1) := rfl
      have e2 : bin (n + 1) (k + 1) = bin n k + bin n (k + 1) := rfl
      rw [e1, Nat.add_mul, h2]
      have e3 : bin (n + 1) (k + 1) * (k + 1 + 1) = bin (n + 1) (k + 1) * (k + 1) + bin (n + 1) (k + 1) := by rw [Nat.mul_add, Nat.mul_one]
      rw [e3, h1]
      have e4 : bin (n + 1) (k + 1) * (n + 1 + 1) = bin (n + 1) (k + 1) * (n + 1) + bin (n + 1) (k + 1) := by rw [Nat.mul_add, Nat.mul_one]
      rw [e4]
      have e5 : bin (n + 1) (k + 1) * (n + 1) = bin n k * (n + 1) + bin n (k + 1) * (n + 1) := by rw [e2, Nat.add_mul]
      rw [e5]
      omega

theorem bin_right : ∀ (n k : Nat), k ≤ n → bin n (k + 1) * (k + 1) = bin n k * (n - k) := by
  intro n k hk
  have h1 := bin_up n k
  have e1 : bin (n + 1) (k + 1) = bin n k + bin n (k + 1) := rfl
  rw [e1, Nat.add_mul] at h1
  have h2 : bin n k * (n + 1) = bin n k * (k + 1) + bin n k * (n - k) := by
    rw [← Nat.mul_add]
    congr 1
    omega
  omega

theorem bin_fac : ∀ (n c : Nat), bin (n + c) c * (fac c * fac n) = fac (n + c) := by
  intro n c
  induction c with
  | zero => simp [bin_zero, fac]
  | succ c ih =>
    have h := bin_up (n + c) c
    have e1 : fac (c + 1) = (c + 1) * fac c := rfl
    have e2 : fac (n + (c + 1)) = (n + c + 1) * fac (n + c) := rfl
    have e3 : bin (n + (c + 1)) (c + 1) = bin (n + c + 1) (c + 1) := rfl
    rw [e1, e2, e3, ← ih]
    calc bin (n + c + 1) (c + 1) * ((c + 1) * fac c * fac n) = (bin (n + c + 1) (c + 1) * (c + 1)) * (fac c * fac n) := by rw [Nat.mul_assoc, Nat.mul_assoc]
      _ = (bin (n + c) c * (n + c + 1)) * (fac c * fac n) := by rw [h]
      _ = (n + c + 1) * (bin (n + c) c * (fac c * fac n)) := by rw [Nat.mul_comm (bin (n + c) c) (n + c + 1), Nat.mul_assoc]

theorem bin_pow (m : Nat) : ∀ (n c : Nat), c ≤ n → bin n c * m ^ (n - c) ≤ (m + 1) ^ n := by
  intro n
  induction n with
  | zero => intro c h; obtain rfl : c = 0 := by omega
            simp [bin]
  | succ n ih =>
    intro c h
    cases c with
    | zero =>
      rw [bin_zero, Nat.one_mul]
      exact Nat.pow_le_pow_left (by omega) _
    | succ c =>
      have e1 : bin (n + 1) (c + 1) = bin n c + bin n (c + 1) := rfl
      rw [e1, Nat.add_mul, show n + 1 - (c + 1) = n - c by omega]
      have h1 := ih c (by omega)
      have h2 : bin n (c + 1) * m ^ (n - c) ≤ m * (m + 1) ^ n := by
        by_cases hc : c + 1 ≤ n
        · have := ih (c + 1) hc
          rw [show n - c = (n - (c + 1)) + 1 by omega, Nat.pow_succ, ← Nat.mul_assoc, Nat.mul_comm m]
          exact Nat.mul_le_mul_right _ this
        · rw [bin_gt n (c + 1) (by omega)]
          simp
      have h3 : (m + 1) ^ (n + 1) = (m + 1) ^ n + m * (m + 1) ^ n := by rw [Nat.pow_succ, Nat.mul_add, Nat.mul_one, Nat.mul_comm m]; omega
      omega

theorem bin_le (n c : Nat) : bin n c ≤ 2 ^ n := by
  by_cases h : c ≤ n
  · have := bin_pow 1 n c h
    simpa using this
  · rw [bin_gt n c (by omega)]
    exact Nat.zero_le _
theorem bin_ge (n c : Nat) (h : c ≤ n) : 1 ≤ bin n c := by
  have h1 := bin_fac (n - c) c
  rw [show n - c + c = n by omega] at h1
  rcases Nat.eq_zero_or_pos (bin n c) with h0 | h0
  · rw [h0] at h1
    have := fac_pos n
    omega
  · exact h0

/-- Ways as the model counts them: prefix by prefix. -/
def wP : List Nat → Nat → Nat
  | [], _ => 1
  | c :: cs, s => bin (s + c) c * wP cs (s + c)
/-- .. and as the program does: what is left. -/
def rP : List Nat → Nat → Nat
  | [], _ => 1
  | c :: cs, n => bin n c * rP cs (n - c)
def facs : List Nat → Nat
  | [] => 1
  | c :: cs => fac c * facs cs

theorem facs_pos (cs : List Nat) : 0 < facs cs := by
  induction cs with
  | nil => decide
  | cons c cs ih => exact Nat.mul_pos (fac_pos c) ih

theorem wP_fac : ∀ (cs : List Nat) (s : Nat), wP cs s * (fac s * facs cs) = fac (s + cs.sum) := by
  intro cs
  induction cs with
  | nil => intro s; simp [wP, facs]
  | cons c cs ih =>
    intro s
    have h1 := ih (s + c)
    have h2 := bin_fac s c
    rw [wP, facs, List.sum_cons, ← Nat.add_assoc, ← h1, ← h2]
    generalize bin (s + c) c = a
    generalize wP cs (s + c) = w
    generalize fac c = x
    generalize fac s = y
    generalize facs cs = z
    ac_rfl

theorem rP_fac : ∀ (cs : List Nat), rP cs cs.sum * facs cs = fac cs.sum := by
  intro cs
  induction cs with
  | nil => rfl
  | cons c cs ih =>
    have h2 := bin_fac cs.sum c
    rw [rP, facs, List.sum_cons, show c + cs.sum - c = cs.sum by omega, Nat.add_comm c, ← h2, ← ih]
    generalize bin (cs.sum + c) c = a
    generalize rP cs cs.sum = w
    generalize fac c = x
    generalize facs cs = z
    ac_rfl

theorem rP_le : ∀ (cs : List Nat), rP cs cs.sum ≤ cs.length ^ cs.sum := by
  intro cs
  induction cs with
  | nil => simp [rP]
  | cons c cs ih =>
    rw [rP, List.sum_cons, show c + cs.sum - c = cs.sum by omega, List.length_cons]
    have h := bin_pow cs.length (c + cs.sum) c (by omega)
    rw [show c + cs.sum - c = cs.sum by omega] at h
    exact Nat.le_trans (Nat.mul_le_mul_left _ ih) h

theorem wP_rP (cs : List Nat) : wP cs 0 = rP cs cs.sum := by
  have h1 := wP_fac cs 0
  have h2 := rP_fac cs
  rw [Nat.zero_add, ← h2] at h1
  simp only [fac, Nat.one_mul] at h1
  exact Nat.eq_of_mul_eq_mul_right (facs_pos cs) h1

theorem rP_ge : ∀ (cs : List Nat), 1 ≤ rP cs cs.sum := by
  intro cs
  have h := rP_fac cs
  rcases Nat.eq_zero_or_pos (rP cs cs.sum) with h0 | h0
  · rw [h0] at h
    have := fac_pos cs.sum
    omega
  · exact h0

/-- Both count the same. -/
theorem ways_same (c : Nat) (cs : List Nat) (hS : 1 ≤ cs.sum) (hc : 1 ≤ c) : wP (c :: cs) 0 = wP ((c - 1) :: cs) 0 + bin (c + cs.sum - 1) c * rP cs cs.sum := by
  obtain ⟨S, hS'⟩ : ∃ S, cs.sum = S + 1 := ⟨cs.sum - 1, by omega⟩
  obtain ⟨d, rfl⟩ : ∃ d, c = d + 1 := ⟨c - 1, by omega⟩
  simp only [wP, Nat.zero_add, bin_self, Nat.one_mul, Nat.add_sub_cancel]
  have hA := wP_fac cs (d + 1)
  have hB := wP_fac cs d
  have hR := rP_fac cs
  have hX := bin_fac S (d + 1)
  rw [hS'] at hA hB hR ⊢
  rw [show d + 1 + (S + 1) - 1 = S + (d + 1) by omega]
  have e1 : fac (d + 1) = (d + 1) * fac d := rfl
  have e2 : fac (S + 1) = (S + 1) * fac S := rfl
  have e3 : fac (d + 1 + (S + 1)) = (S + (d + 1) + 1) * fac (S + (d + 1)) := by rw [show d + 1 + (S + 1) = S + (d + 1) + 1 by omega]; rfl
  have e4 : fac (d + (S + 1)) = fac (S + (d + 1)) := by rw [show d + (S + 1) = S + (d + 1) by omega]
  have hpos : 0 < fac (d + 1) * facs cs := Nat.mul_pos (fac_pos _) (facs_pos _)
  apply Nat.eq_of_mul_eq_mul_right hpos
  rw [hA, Nat.add_mul, e3]
  have p1 : wP cs d * (fac (d + 1) * facs cs) = (d + 1) * fac (S + (d + 1)) := by
    rw [← e4, ← hB, e1]
    generalize wP cs d = w
    generalize fac d = x
    generalize facs cs = z
    ac_rfl
  have p2 : bin (S + (d + 1)) (d + 1) * rP cs (S + 1) * (fac (d + 1) * facs cs) = (S + 1) * fac (S + (d + 1)) := by
    rw [← hX]
    have : bin (S + (d + 1)) (d + 1) * rP cs (S + 1) * (fac (d + 1) * facs cs) = bin (S + (d + 1)) (d + 1) * fac (d + 1) * (rP cs (S + 1) * facs cs) := by ac_rfl
    rw [this, hR, e2]
    ac_rfl
  rw [p1, p2, ← Nat.add_mul]
  congr 1
  omega

theorem ways_same0 (cs : List Nat) : wP (0 :: cs) 0 = bin (0 + cs.sum - 1) 0 * rP cs cs.sum := by
  rw [bin_zero, Nat.one_mul, wP]
  simp only [Nat.add_zero, bin_zero, Nat.one_mul]
  exact wP_rP cs

theorem bin_mono (s : Nat) : ∀ (c j : Nat), j ≤ c → bin (s + j) j ≤ bin (s + c) c := by
  intro c
  induction c with
  | zero => intro j h; obtain rfl : j = 0 := by omega
            exact Nat.le_refl _
  | succ c ih =>
    intro j h
    by_cases e : j = c + 1
    · subst e; exact Nat.le_refl _
    · refine Nat.le_trans (ih j (by omega)) ?_
      have : bin (s + (c + 1)) (c + 1) = bin (s + c) c + bin (s + c) (c + 1) := rfl
      omega

/-- One step of choose. -/
theorem choose_step (n i : Nat) (h : i < n) : ((bin n i : Nat) : Int) * ((n : Int) - (i : Int)) / ((i : Int) + 1) = ((bin n (i + 1) : Nat) : Int) := by
  have h1 := bin_right n i (by omega)
  have h2 : ((bin n i : Nat) : Int) * ((n : Int) - (i : Int)) = ((bin n (i + 1) : Nat) : Int) * ((i : Int) + 1) := by
    have e : ((n : Int) - (i : Int)) = ((n - i : Nat) : Int) := by omega
    rw [e, ← Int.natCast_mul, ← h1]
    push_cast
    rfl
  rw [h2]
  exact Int.mul_ediv_cancel _ (by omega)

theorem choose_bd (n i : Nat) (hn : n ≤ 40) (h : i ≤ n) : 0 ≤ ((bin n i : Nat) : Int) * ((n : Int) - (i : Int)) ∧ ((bin n i : Nat) : Int) * ((n : Int) - (i : Int)) ≤ 100000000000000 := by
  have h1 : bin n i ≤ 2 ^ 40 := Nat.le_trans (bin_le n i) (Nat.pow_le_pow_right (by decide) hn)
  have e : ((n : Int) - (i : Int)) = ((n - i : Nat) : Int) := by omega
  have h2 : bin n i * (n - i) ≤ 2 ^ 40 * 40 := Nat.mul_le_mul h1 (by omega)
  rw [e, ← Int.natCast_mul]
  have h3 : (2 : Nat) ^ 40 * 40 = 43980465111040 := by decide
  omega

/-- One step of the model's count. -/
theorem ways_step (W s k : Nat) : ((W * bin (s + k) k : Nat) : Int) * ((s : Int) + (k : Int) + 1) / ((k : Int) + 1) = ((W * bin (s + (k + 1)) (k + 1) : Nat) : Int) := by
  have h1 := bin_up (s + k) k
  have h2 : ((W * bin (s + k) k : Nat) : Int) * ((s : Int) + (k : Int) + 1) = ((W * bin (s + (k + 1)) (k + 1) : Nat) : Int) * ((k : Int) + 1) := by
    have e1 : ((s : Int) + (k : Int) + 1) = ((s + k + 1 : Nat) : Int) := by omega
    have e2 : ((k : Int) + 1) = ((k + 1 : Nat) : Int) := by omega
    rw [e1, e2, ← Int.natCast_mul, ← Int.natCast_mul]
    congr 1
    rw [Nat.mul_assoc, ← h1, ← Nat.mul_assoc]
    rfl
  rw [h2]
  exact Int.mul_ediv_cancel _ (by omega)

theorem ways_bd (W s k M : Nat) (hW : W * bin (s + k) k ≤ M) (hM : M ≤ 100000000000000) (hs : s + k + 1 ≤ 1000) :
    0 ≤ ((W * bin (s + k) k : Nat) : Int) * ((s : Int) + (k : Int) + 1) ∧ ((W * bin (s + k) k : Nat) : Int) * ((s : Int) + (k : Int) + 1) ≤ 100000000000000000 := by
  have e1 : ((s : Int) + (k : Int) + 1) = ((s + k + 1 : Nat) : Int) := by omega
  have h2 : W * bin (s + k) k * (s + k + 1) ≤ 100000000000000 * 1000 := Nat.mul_le_mul (by omega) hs
  rw [e1, ← Int.natCast_mul]
  omega

theorem wP_step (cs : List Nat) (i s : Nat) (h : i < cs.length) : wP (cs.drop i) s = bin (s + cs[i]) cs[i] * wP (cs.drop (i + 1)) (s + cs[i]) := by
  rw [List.drop_eq_getElem_cons h]; rfl
theorem wP_pos : ∀ (cs : List Nat) (s : Nat), 1 ≤ wP cs s := by
  intro cs
  induction cs with
  | nil => intro s; exact Nat.le_refl _
  | cons c cs ih =>
    intro s
    have h1 := bin_ge (s + c) c (by omega)
    have h2 := ih (s + c)
    exact Nat.le_trans h1 (Nat.le_mul_of_pos_right _ h2)
theorem rP_step (cs : List Nat) (i n : Nat) (h : i < cs.length) : rP (cs.drop i) n = bin n cs[i] * rP (cs.drop (i + 1)) (n - cs[i]) := by
  rw [List.drop_eq_getElem_cons h]; rfl

theorem nsum_drop (cs : List Nat) (i : Nat) (h : i < cs.length) : (cs.drop i).sum = cs[i] + (cs.drop (i + 1)).sum := by
  rw [List.drop_eq_getElem_cons h, List.sum_cons]
theorem nsum_take (cs : List Nat) (i : Nat) (h : i < cs.length) : (cs.take (i + 1)).sum = (cs.take i).sum + cs[i] := by
  rw [List.take_add_one, List.getElem?_eq_getElem h, List.sum_append]; simp
theorem nsum_take_le (cs : List Nat) (i : Nat) : (cs.take i).sum ≤ cs.sum := by
  have h : cs.sum = (cs.take i).sum + (cs.drop i).sum := by rw [← List.sum_append, List.take_append_drop]
  omega

end Go.Proofs.YtlbjeiaihenjkaaGreatDoor

/- from D2: Sums of digits, digital roots: plain mathematics.  -/
namespace Go.Proofs.YtlbjeiaihenjkaaGreatDoor
set_option linter.unusedVariables false
set_option linter.unusedSimpArgs false

theorem div_mod (b n : Int) : n = b * (n / b) + n % b := (Int.mul_ediv_add_emod n b).symm

theorem revD_sum (b : Int) (hb : 2 ≤ b) : ∀ (k : Nat) (n : Int), n.toNat ≤ k → 0 ≤ n → 0 ≤ (revD b n).sum ∧ (revD b n).sum ≤ n ∧ (b ≤ n → (revD b n).sum < n) := by
  intro k
  induction k with
  | zero =>
    intro n hk h0
    rw [revD_small b n (by omega)]
    simp
    omega
  | succ k ih =>
    intro n hk h0
    by_cases h : b ≤ n
    · have h2 := div_lt b n hb h
      have h3 := mod_bd b n hb
      have h4 := div_pos b n hb h
      have h5 := ih (n / b) (by omega) h2.1
      have h6 := div_mod b n
      have h7 : 2 * (n / b) ≤ b * (n / b) := Int.mul_le_mul_of_nonneg_right hb h2.1
      rw [revD_big b n hb h, List.sum_cons]
      generalize n / b = q at *
      generalize b * q = r at *
      omega
    · rw [revD_small b n h]
      simp
      omega

theorem dgs_sum (b n : Int) (hb : 2 ≤ b) (h0 : 0 ≤ n) : 0 ≤ (dgs b n).sum ∧ (dgs b n).sum ≤ n ∧ (b ≤ n → (dgs b n).sum < n) := by
  have := revD_sum b hb n.toNat n (Nat.le_refl _) h0
  rw [dgs, List.sum_reverse]
  exact this

/-- The number below b that is reached by sums of digits. -/
def dr (b n : Int) : Int := if h : 2 ≤ b ∧ b ≤ n then dr b (dgs b n).sum else n
termination_by n.toNat
decreasing_by
  have := dgs_sum b n h.1 (by omega)
  have := this.2.2 h.2
  omega

theorem dr_step (b n : Int) (hb : 2 ≤ b) (h : b ≤ n) : dr b n = dr b (dgs b n).sum := by
  rw [dr]
  simp [hb, h]
theorem dr_end (b n : Int) (h : ¬ b ≤ n) : dr b n = n := by
  rw [dr]
  simp [h]

end Go.Proofs.YtlbjeiaihenjkaaGreatDoor
