/-
  Joint text of UD, UE, UF, S5: what each proves stands ahead of it.
-/
import Derived.Test.YtlbjeiaihenjkaaGreatDoorJ12
import Derived.Test.YtlbjeiaihenjkaaGreatDoorJ01
import Derived.Test.YtlbjeiaihenjkaaGreatDoorJ07
import Derived.Test.YtlbjeiaihenjkaaGreatDoorJ11
import Derived.Test.YtlbjeiaihenjkaaGreatDoorJ02
import Derived.Test.YtlbjeiaihenjkaaGreatDoorJ03
import Derived.Test.YtlbjeiaihenjkaaGreatDoorJ06
import Derived.Test.YtlbjeiaihenjkaaGreatDoorJ00
/- from UD: The program's table of powers, its sums, and where numbers fall.  -/
namespace Go.Proofs.YtlbjeiaihenjkaaGreatDoor
open Go.RowKit
set_option linter.unusedVariables false
set_option linter.unusedSimpArgs false
set_option maxRecDepth 100000

/-- The table of the powers p of the digits of a base lies in a block of its own. -/
structure Tp (w : World) (g b p : Nat) : Prop where
  lt : g < w.heap.size
  cell : ∀ j, j < b → w.cell? ⟨g, j, none⟩ = some (.int .i64 ((j ^ p : Nat) : Int))

theorem Tp.keep {w w' : World} {g b p : Nat} (h : Tp w g b p) (hb : Below w.heap.size w w') : Tp w' g b p :=
  ⟨Nat.lt_of_lt_of_le h.lt hb.size, fun j hj => (hb.cell (p := ⟨g, j, none⟩) h.lt).trans (h.cell j hj)⟩
theorem Tp.keepB {w w' : World} {C g b p : Nat} (h : Tp w g b p) (hb : Below C w w') (hg : g < C) (hs : w.heap.size ≤ w'.heap.size) : Tp w' g b p :=
  ⟨Nat.lt_of_lt_of_le h.lt hs, fun j hj => (hb.cell (p := ⟨g, j, none⟩) hg).trans (h.cell j hj)⟩
theorem Tp.drewN {w : World} {g b p : Nat} (h : Tp w g b p) (n : Nat) : Tp (w.drewN n) g b p := ⟨h.lt, h.cell⟩
theorem Tp.drew {w : World} {g b p : Nat} (h : Tp w g b p) : Tp w.drew g b p := ⟨h.lt, h.cell⟩

/-- The table while the power of k is at j. -/
def pst (b p k j : Nat) : List Int := lst k (fun d => d ^ p) ++ (((k ^ j : Nat) : Int) :: List.replicate (b - k - 1) 1)
theorem pst_zero {b p k : Nat} (h : k < b) : pst b p k 0 = lst k (fun d => d ^ p) ++ List.replicate (b - k) 1 := by
  unfold pst
  obtain ⟨m, hm⟩ : ∃ m, b - k = m + 1 := ⟨b - k - 1, by omega⟩
  rw [hm, List.replicate_succ]
  simp
theorem pst_end {b p k : Nat} (h : k < b) : pst b p k p = lst (k + 1) (fun d => d ^ p) ++ List.replicate (b - (k + 1)) 1 := by
  unfold pst
  rw [lst_succ, List.append_assoc]
  rw [show b - k - 1 = b - (k + 1) from by omega]
  rfl
theorem pst_set (b p k j : Nat) (s : Nat) (hs : k ^ (j + 1) = s) : (pst b p k j).set k (s : Int) = pst b p k (j + 1) := by
  unfold pst
  rw [List.set_append, if_neg (by rw [lst_len]; omega), lst_len, Nat.sub_self, List.set_cons_zero, hs]
theorem pst_len {b p k j : Nat} (h : k < b) : (pst b p k j).length = b := by
  unfold pst
  simp [lst_len]; omega
theorem pst_get (b p k j : Nat) : (pst b p k j)[k]? = some ((k ^ j : Nat) : Int) := by
  unfold pst
  rw [List.getElem?_append_right (by rw [lst_len]; omega), lst_len, Nat.sub_self]
  rfl
theorem pst_at {b p k j : Nat} (h : k < (pst b p k j).length) : (pst b p k j)[k] = ((k ^ j : Nat) : Int) := (List.getElem?_eq_some_iff.1 (pst_get b p k j)).2

theorem powersOf_any (b p : Nat) (w : World) (hb : 2 ≤ b) (hb' : b ≤ 16) (hp : 1 ≤ p) (hp' : p ≤ 8) :
    Calls Tryz.prog 243 #[.int .i64 (b : Int), .int .i64 (p : Int)] w fun e w' => ∃ g c, e = .returned (.slice (some ⟨g, 0, none⟩) b c) ∧ w.heap.size ≤ g ∧ Tp w' g b p ∧ Below w.heap.size w w' := by
  go_enter Tryz.func243, Tryz.ntmps243
  go_wp2_with fail
  refine (repeatP_any _ _ b w.heap.size 1 _ (Rd.litB _ _ _ (Nat.le_refl _)) (by omega)).mono ?_
  rintro e w1 ⟨u, rfl, hr, hb1⟩
  obtain ⟨gu, cu, rfl⟩ : ∃ gu cu, u = .slice (some ⟨gu, 0, none⟩) b cu := by
    rcases hr.cases with ⟨_, hx⟩ | ⟨gu, cu, hu, _⟩
    · have := congrArg List.length hx; simp at this; omega
    · rw [List.length_replicate] at hu; exact ⟨gu, cu, hu⟩
  have hB1 : Below w.heap.size w w1 := ((Below.refl _ _).alloc (Nat.le_refl _) _).trans (hb1.mono (by simp))
  have HR1 := Lib.hid (hr.mono (show w.heap.size ≤ _ by simp))
  have HB1 := Lib.hid hB1
  have hg0 := HR1.out.at.2.1
  clear hr hb1 hB1
  go_wp2
  go_loopw [12] (fun i wr => ∃ k : Nat, k ≤ b ∧ i = .int .i64 (k : Int) ∧ Rd wr w.heap.size (.slice (some ⟨gu, 0, none⟩) b cu) (lst k (fun d => d ^ p) ++ List.replicate (b - k) 1) ∧ Below w.heap.size w wr) (fun i _ => b - (intOf i).toNat)
  case atStart => exact ⟨0, Nat.zero_le _, rfl, by simpa [lst] using HR1.out, HB1.out⟩
  case round =>
    obtain ⟨k, hk, rfl, hr, hbl⟩ := hrel
    have HR := Lib.hid hr
    have HB := Lib.hid hbl
    clear hr hbl
    by_cases hlt : k < b
    · obtain ⟨wo, hwo⟩ : ∃ wo : World, wo = wr := ⟨_, rfl⟩
      have HR0 := Lib.hid (show Rd wr w.heap.size (.slice (some ⟨gu, 0, none⟩) b cu) (pst b p k 0) by rw [pst_zero hlt]; exact HR.out)
      clear HR hwo
      go_wp2
      go_loopw [16] (fun i wq => ∃ j : Nat, j ≤ p ∧ i = .int .i64 (j : Int) ∧ Rd wq w.heap.size (.slice (some ⟨gu, 0, none⟩) b cu) (pst b p k j) ∧ Below w.heap.size w wq) (fun i _ => p - (intOf i).toNat)
      case atStart => exact ⟨0, Nat.zero_le _, rfl, HR0.out, HB.out⟩
      case round =>
        obtain ⟨j, hj, rfl, hr, hbl⟩ := hrel
        have HR := Lib.hid hr
        have HBq := Lib.hid hbl
        clear hr hbl
        by_cases hlj : j < p
        · have hkl : k < (pst b p k j).length := by rw [pst_len hlt]; exact hlt
          obtain ⟨hcs, hfs⟩ := HR.out.at.2.2.2.2
          have hcell := hcs k hkl
          rw [pst_at] at hcell
          have hf := hfs k
          obtain ⟨t, ht⟩ : ∃ t, t = k ^ j := ⟨_, rfl⟩
          obtain ⟨s, hs⟩ : ∃ s, s = t * k := ⟨_, rfl⟩
          have HS := Lib.hid (show k ^ (j + 1) = s by rw [Nat.pow_succ, hs, ht])
          have hts : (t : Int) * (k : Int) = (s : Int) := by rw [hs]; push_cast; rfl
          have hsb : s ≤ 2562890625 := by rw [← HS.out]; exact pow_le8 (by omega) (by omega)
          rw [← ht] at hcell
          have HSt := Lib.hid (HR.out.set k (s : Int))
          have HBs := Lib.hid (HBq.out.setCell (p := ⟨gu, k, none⟩) hg0 (.int .i64 (s : Int)))
          clear hcs hfs hs ht
          go_wp2
          go_roundw
          case rel => exact ⟨j + 1, by omega, by go_num, by rw [← pst_set b p k j s HS.out]; exact HSt.out.1, HBs.out⟩
          case measure => simp [intOf]; omega
        · obtain rfl : j = p := by omega
          have HRe := Lib.hid (show Rd _ w.heap.size (.slice (some ⟨gu, 0, none⟩) b cu) (lst (k + 1) (fun d => d ^ j) ++ List.replicate (b - (k + 1)) 1) by rw [← pst_end hlt]; exact HR.out)
          go_wp2
          go_roundw
          case rel => exact ⟨k + 1, by omega, by go_num, HRe.out, HBq.out⟩
          case measure => simp [intOf]; omega
    · obtain rfl : k = b := by omega
      have HRe := Lib.hid (show Rd wr w.heap.size (.slice (some ⟨gu, 0, none⟩) k cu) (lst k (fun d => d ^ p)) by have := HR.out; rw [Nat.sub_self, List.replicate_zero, List.append_nil] at this; exact this)
      go_wp2
      go_ret
      exact ⟨gu, cu, rfl, hg0, ⟨HRe.out.at.2.2.1, fun j hj => by rw [HRe.out.at.2.2.2.2.1 j (by rw [lst_len]; exact hj), lst_at]⟩, HB.out⟩

theorem radixP_any (b g c : Nat) (w : World) (hb : b ≤ 16) :
    Calls Tryz.prog 266 #[.slice (some ⟨g, 0, none⟩) b c] w fun e w' => e = .returned (.int .i64 (b : Int)) ∧ w = w' := by
  go_enter Tryz.func266, Tryz.ntmps266
  go_wp2
  go_ret
  exact ⟨rfl, rfl⟩

theorem sumP_any (g c b p n : Nat) (w : World) (hT : Tp w g b p) (hb : 2 ≤ b) (hb' : b ≤ 16) (hp : 1 ≤ p) (hp' : p ≤ 8) (hn : n ≤ 1000000000000) :
    Calls Tryz.prog 244 #[.slice (some ⟨g, 0, none⟩) b c, .int .i64 (n : Int)] w fun e w' => e = .returned (.int .i64 ((ps b p n : Nat) : Int)) ∧ Below w.heap.size w w' := by
  have HT := Lib.hid hT
  have hbd := ps_le8 (p := p) hb hb' hp' hn
  obtain ⟨z, hz⟩ : ∃ z, z = ps b p n := ⟨_, rfl⟩
  obtain ⟨xs, hxs⟩ : ∃ xs, xs = dgs (b : Int) (n : Int) := ⟨_, rfl⟩
  have HX := Lib.hid hxs
  have hlen : xs.length ≤ 40 := by rw [hxs]; exact dgs_len40 _ _ (by omega) (by omega) (by omega)
  have hall := Lib.hid (show ∀ x ∈ xs, 0 ≤ x ∧ x ≤ (b : Int) - 1 by rw [hxs]; exact dgs_all _ _ (by omega) (by omega))
  have HPS := Lib.hid (show psl p xs = z by rw [hxs, hz]; exact psl_dgs hb hp n)
  rw [← hz] at hbd ⊢
  clear hT hz hxs
  go_enter Tryz.func244, Tryz.ntmps244
  go_wp2_with (go_at_call 266; refine (radixP_any b g c _ hb').mono ?_; rintro e w1 ⟨rfl, rfl⟩)
  refine (digits_any _ _ _ (by omega) (by omega) (by omega) (by omega)).mono ?_
  rintro e w1 ⟨g1, cap1, rfl, hr, hbl⟩
  rw [← HX.out] at hr
  rw [← HX.out]
  have HB := Lib.hid hbl
  have HR := Lib.hid hr
  have HT1 := Lib.hid (HT.out.keep hbl)
  clear hbl hr
  go_wp2
  go_loop [5, 13] (fun s i => ∃ k : Nat, k ≤ xs.length ∧ i = .int .i64 (k : Int) ∧ s = .int .i64 ((psl p (xs.take k) : Nat) : Int)) (fun _ i => xs.length - (intOf i).toNat)
  case atStart => exact ⟨0, Nat.zero_le _, rfl, rfl⟩
  case round =>
    obtain ⟨k, hk, rfl, rfl⟩ := hrel
    by_cases hlt : k < xs.length
    · have hcell := HR.out.at.2.2.2.2.1 k hlt
      obtain ⟨x1, x2⟩ := hall.out _ (List.getElem_mem hlt)
      obtain ⟨d, hd⟩ : ∃ d : Nat, xs[k] = (d : Int) := ⟨xs[k].toNat, by omega⟩
      have hst := psl_snoc p xs k hlt
      have hle := psl_take_le p xs (k + 1)
      rw [HPS.out] at hle
      rw [hd] at hst hcell
      have hdb : d < b := by omega
      have hcd := HT1.out.cell d hdb
      have e1 : ((d : Int)).toNat ^ p = d ^ p := rfl
      rw [e1] at hst
      obtain ⟨u, hu⟩ : ∃ u, u = d ^ p := ⟨_, rfl⟩
      obtain ⟨t, ht⟩ : ∃ t, t = psl p (xs.take k) := ⟨_, rfl⟩
      rw [← hu] at hcd hst
      rw [← ht] at hst ⊢
      have hub : t + u ≤ z := by omega
      have HST := Lib.hid hst
      clear hst hle hd x1 x2 e1 hu ht
      go_wp2
      go_round
      case rel => exact ⟨k + 1, by omega, by go_num, by rw [HST.out]; go_num⟩
      case measure => simp [intOf]; omega
    · obtain rfl : k = xs.length := by omega
      have HE := Lib.hid (show psl p (xs.take xs.length) = z by rw [List.take_of_length_le (Nat.le_refl _)]; exact HPS.out)
      go_wp2
      go_ret
      exact ⟨by first | rw [HE.out]; rfl | rw [HPS.out]; rfl, HB.out⟩

theorem fallsP_any (g c b p : Nat) (w : World) (hT : Tp w g b p) (hb : 2 ≤ b) (hb' : b ≤ 16) (hp : 1 ≤ p) (hp' : p ≤ 8) :
    Calls Tryz.prog 268 #[.slice (some ⟨g, 0, none⟩) b c] w fun e w' => e = .returned (.int .i64 ((ff b p : Nat) : Int)) ∧ w = w' := by
  obtain ⟨f1, f2, f3, f4, f5, _⟩ := ff_spec hb hb' hp hp'
  have hb1 : (b : Int) - 1 = ((b - 1 : Nat) : Int) := by omega
  have hcell := hT.cell (b - 1) (by omega)
  obtain ⟨u, hu⟩ : ∃ u, u = (b - 1) ^ p := ⟨_, rfl⟩
  have hub : u ≤ 2562890625 := by rw [hu]; exact pow_le8 (by omega) hp'
  obtain ⟨z, hz⟩ : ∃ z, z = ff b p := ⟨_, rfl⟩
  rw [← hu] at f3 f5 hcell
  rw [← hz] at f1 f2 f3 f4 f5 ⊢
  have F3 := Lib.hid f3
  have F4 := Lib.hid f4
  have F5 := Lib.hid f5
  have HM := Lib.hid (fun (k : Nat) (hk : k ≤ z) => Nat.pow_le_pow_right (show b > 0 by omega) (show k - 1 ≤ z - 1 by omega))
  clear hT f3 f4 f5 hu hz
  go_enter Tryz.func268, Tryz.ntmps268
  go_wp2
  go_loop [3, 4] (fun kk l => ∃ k t : Nat, 1 ≤ k ∧ k ≤ z ∧ t = b ^ (k - 1) ∧ kk = .int .i64 (k : Int) ∧ l = .int .i64 (t : Int)) (fun kk _ => z - (intOf kk).toNat)
  case atStart => exact ⟨1, 1, by omega, by omega, rfl, rfl, rfl⟩
  case round =>
    obtain ⟨k, t, k1, kz, ht, rfl, rfl⟩ := hrel
    have HT := Lib.hid ht
    have htb : t ≤ 1000000000000000 := by have h1 := HM.out k kz; have h2 := F4.out; rw [ht]; omega
    clear ht
    obtain ⟨s, hs⟩ : ∃ s, s = k * u := ⟨_, rfl⟩
    have hts : (k : Int) * (u : Int) = (s : Int) := by rw [hs]; push_cast; rfl
    have hsb : s ≤ 102515625000 := by rw [hs]; exact Nat.le_trans (Nat.mul_le_mul (show k ≤ 40 by omega) hub) (by omega)
    have HS := Lib.hid hs
    clear hs
    by_cases hlt : k < z
    · have hge : t ≤ s := by have := F5.out k k1 hlt; rw [HT.out, HS.out]; exact this
      obtain ⟨v, hv⟩ : ∃ v, v = t * b := ⟨_, rfl⟩
      have hvs : (t : Int) * (b : Int) = (v : Int) := by rw [hv]; push_cast; rfl
      have HV := Lib.hid (show v = b ^ (k + 1 - 1) by rw [hv, HT.out, Nat.add_sub_cancel]; conv => rhs; rw [show k = (k - 1) + 1 from by omega, Nat.pow_succ])
      have hvb : v ≤ 1000000000000000 := by have h1 := HM.out (k + 1) (by omega); have h2 := F4.out; rw [HV.out]; omega
      clear hv
      go_wp2
      go_round
      case rel => exact ⟨k + 1, v, by omega, by omega, HV.out, by go_num, by first | rfl | rw [hvs]⟩
      case measure => simp [intOf]; omega
    · obtain rfl : k = z := by omega
      have hge : ¬ t ≤ s := by have := F3.out; rw [HT.out, HS.out]; omega
      have hge2 : s < t := by omega
      go_wp2
      go_ret
      exact ⟨rfl, rfl⟩

theorem below_drewN3 (w : World) (n : Nat) : Below w.heap.size w (w.drewN n) := by
  have h := Below.refl w.heap.size w
  exact ⟨h.os, h.tape, h.output, h.size, h.block⟩

end Go.Proofs.YtlbjeiaihenjkaaGreatDoor

/- from UE: Who may ask for powers: the program's and the model's tests.  -/
namespace Go.Proofs.YtlbjeiaihenjkaaGreatDoor
open Go.RowKit
set_option linter.unusedVariables false
set_option linter.unusedSimpArgs false

theorem apart_sym2 {u v : Value} (h : u.ownBlock = none ∨ u.ownBlock ≠ v.ownBlock) : v.ownBlock = none ∨ v.ownBlock ≠ u.ownBlock := by
  cases hv : v.ownBlock with
  | none => exact .inl rfl
  | some k =>
    right
    rcases h with h | h
    · rw [h]; simp
    · rw [hv] at h; exact fun e => h e.symm

theorem isPower_any (p m : Int) (w : World) : Calls Tryz.prog 242 #[.int .i64 p, .int .i64 m] w fun e w' => e = .returned (.bool (decide (Pow p m))) ∧ w = w' := by
  by_cases h : 1 ≤ p
  · by_cases h2 : p ≤ m
    · have hd := Lib.hid (show decide (Pow p m) = true from decide_eq_true (p := Pow p m) ⟨h, h2⟩)
      go_enter Tryz.func242, Tryz.ntmps242
      go_wp2
      go_ret
      exact ⟨ret_bool (by rw [hd.out]; try simp [h2]), rfl⟩
    · have hd := Lib.hid (show decide (Pow p m) = false from decide_eq_false (p := Pow p m) (fun hc => by have h3 := hc.1; have h4 := hc.2; omega))
      go_enter Tryz.func242, Tryz.ntmps242
      go_wp2
      go_ret
      exact ⟨ret_bool (by rw [hd.out]; try simp [h2]), rfl⟩
  · have hd := Lib.hid (show decide (Pow p m) = false from decide_eq_false (p := Pow p m) (fun hc => by have h3 := hc.1; have h4 := hc.2; omega))
    go_enter Tryz.func242, Tryz.ntmps242
    go_wp2
    go_ret
    exact ⟨ret_bool (by rw [hd.out]; try simp [h]), rfl⟩

theorem pwPower_any (p m : Int) (w : World) : Calls Tryz.prog 145 #[.int .i64 p, .int .i64 m] w fun e w' => e = .returned (.bool (decide (Pow p m))) ∧ w = w' := by
  by_cases h : 1 ≤ p ∧ p ≤ m
  · have hd := Lib.hid (show decide (Pow p m) = true from decide_eq_true (p := Pow p m) h)
    obtain ⟨h1, h2⟩ := h
    go_enter Tryz.func145, Tryz.ntmps145
    go_wp2_with (go_at_call 140; refine (l1In_yes _ _ _ _ h1 h2).mono ?_; rintro e w' ⟨rfl, rfl⟩)
    go_ret
    exact ⟨ret_bool hd.out.symm, rfl⟩
  · have hd := Lib.hid (show decide (Pow p m) = false from decide_eq_false (p := Pow p m) h)
    have H := Lib.hid (show p < 1 ∨ m < p by omega)
    clear h
    go_enter Tryz.func145, Tryz.ntmps145
    go_wp2_with (go_at_call 140; refine (l1In_no _ _ _ _ H.out).mono ?_; rintro e w' ⟨rfl, rfl⟩)
    go_ret
    exact ⟨ret_bool hd.out.symm, rfl⟩

/-- Bases in which many numbers are looked through. -/
def Bas10 (b : Int) : Prop := 2 ≤ b ∧ b ≤ 10
instance (b : Int) : Decidable (Bas10 b) := by unfold Bas10; infer_instance
theorem Bas10.bas {b : Int} (h : Bas10 b) : Bas b := ⟨h.1, by have := h.2; omega⟩

theorem isSearchedBase_any (b : Int) (w : World) : Calls Tryz.prog 245 #[.int .i64 b] w fun e w' => e = .returned (.bool (decide (Bas10 b))) ∧ w = w' := by
  by_cases h : Bas b
  · have h1 : decide (Bas b) = true := decide_eq_true h
    by_cases h2 : b ≤ 10
    · have hd := Lib.hid (show decide (Bas10 b) = true from decide_eq_true (p := Bas10 b) ⟨h.1, h2⟩)
      clear h
      go_enter Tryz.func245, Tryz.ntmps245
      go_wp2_with (go_at_call 47; refine (isBase_any _ _).mono ?_; rintro e w1 ⟨rfl, rfl⟩)
      go_ret
      exact ⟨ret_bool (by rw [hd.out]; try simp [h2]), rfl⟩
    · have hd := Lib.hid (show decide (Bas10 b) = false from decide_eq_false (p := Bas10 b) (fun hc => h2 hc.2))
      clear h
      go_enter Tryz.func245, Tryz.ntmps245
      go_wp2_with (go_at_call 47; refine (isBase_any _ _).mono ?_; rintro e w1 ⟨rfl, rfl⟩)
      go_ret
      exact ⟨ret_bool (by rw [hd.out]; try simp [h2]), rfl⟩
  · have h1 : decide (Bas b) = false := decide_eq_false h
    have hd := Lib.hid (show decide (Bas10 b) = false from decide_eq_false (p := Bas10 b) (fun hc => h hc.bas))
    clear h
    go_enter Tryz.func245, Tryz.ntmps245
    go_wp2_with (go_at_call 47; refine (isBase_any _ _).mono ?_; rintro e w1 ⟨rfl, rfl⟩)
    go_ret
    exact ⟨ret_bool (by rw [hd.out]), rfl⟩

theorem l1In_any (n lo hi : Int) (w : World) : Calls Tryz.prog 140 #[.int .i64 n, .int .i64 lo, .int .i64 hi] w fun e w' => e = .returned (.bool (decide (lo ≤ n ∧ n ≤ hi))) ∧ w = w' := by
  by_cases h : lo ≤ n ∧ n ≤ hi
  · have hd : decide (lo ≤ n ∧ n ≤ hi) = true := decide_eq_true h
    refine (l1In_yes _ _ _ _ h.1 h.2).mono ?_
    rintro e w' ⟨rfl, rfl⟩
    exact ⟨by rw [hd], rfl⟩
  · have hd : decide (lo ≤ n ∧ n ≤ hi) = false := decide_eq_false h
    refine (l1In_no _ _ _ _ (by omega)).mono ?_
    rintro e w' ⟨rfl, rfl⟩
    exact ⟨by rw [hd], rfl⟩

end Go.Proofs.YtlbjeiaihenjkaaGreatDoor

/- from UF: Answers: power sums, where numbers fall, the greatest sum.  -/
namespace Go.Proofs.YtlbjeiaihenjkaaGreatDoor
open Go.RowKit
set_option linter.unusedVariables false
set_option linter.unusedSimpArgs false
set_option maxRecDepth 100000

def OK3 (n b p m : Int) : Bool := decide (Num n ∧ Bas b ∧ Pow p m)
theorem OK3_yes {n b p m : Int} (h1 : Num n) (h2 : Bas b) (h3 : Pow p m) : OK3 n b p m = true := decide_eq_true ⟨h1, h2, h3⟩
theorem OK3_no {n b p m : Int} (h : ¬ (Num n ∧ Bas b ∧ Pow p m)) : OK3 n b p m = false := decide_eq_false h
def OK2 (b p m : Int) : Bool := decide (Bas b ∧ Pow p m)
theorem OK2_yes {b p m : Int} (h2 : Bas b) (h3 : Pow p m) : OK2 b p m = true := decide_eq_true ⟨h2, h3⟩
theorem OK2_no {b p m : Int} (h : ¬ (Bas b ∧ Pow p m)) : OK2 b p m = false := decide_eq_false h

def V_PowerSum (n b p : Int) : Int := if OK3 n b p 8 = true then ((ps b.toNat p.toNat n.toNat : Nat) : Int) else 0
abbrev R_PowerSum (n b p : Int) : Value := .tuple #[.int .i64 (V_PowerSum n b p), .bool (OK3 n b p 8)]
def V_FallsFrom (b p : Int) : Int := if OK2 b p 8 = true then ((ff b.toNat p.toNat : Nat) : Int) else 0
abbrev R_FallsFrom (b p : Int) : Value := .tuple #[.int .i64 (V_FallsFrom b p), .bool (OK2 b p 8)]
def V_GreatestSum (b p : Int) : Int := if OK2 b p 8 = true then ((gs b.toNat p.toNat : Nat) : Int) else 0
abbrev R_GreatestSum (b p : Int) : Value := .tuple #[.int .i64 (V_GreatestSum b p), .bool (OK2 b p 8)]

theorem spec_PowerSum (n b p : Int) (w : World) :
    Calls Tryz.prog 93 #[.int .i64 n, .int .i64 b, .int .i64 p] w fun e w' => e = .returned (R_PowerSum n b p) ∧ Below w.heap.size w w' := by
  by_cases hq : Num n ∧ Bas b
  · have a1 : decide (Num n ∧ Bas b) = true := decide_eq_true hq
    by_cases hp : Pow p 8
    · have a2 : decide (Pow p 8) = true := decide_eq_true hp
      have HO := Lib.hid (OK3_yes hq.1 hq.2 hp)
      obtain ⟨⟨n0, n1⟩, b0, b1⟩ := hq
      obtain ⟨p0, p1⟩ := hp
      obtain ⟨N, rfl⟩ : ∃ N : Nat, n = (N : Int) := ⟨n.toNat, by omega⟩
      obtain ⟨B, rfl⟩ : ∃ B : Nat, b = (B : Int) := ⟨b.toNat, by omega⟩
      obtain ⟨P, rfl⟩ : ∃ P : Nat, p = (P : Int) := ⟨p.toNat, by omega⟩
      have HV := Lib.hid (show V_PowerSum (N : Int) (B : Int) (P : Int) = ((ps B P N : Nat) : Int) by unfold V_PowerSum; rw [if_pos HO.out]; rfl)
      go_enter Tryz.func93, Tryz.ntmps93
      go_wp2_with (first | (go_at_call 53; refine (dgAsked_any _ _ _).mono ?_; rintro e w1 ⟨rfl, rfl⟩) | (go_at_call 145; refine (pwPower_any _ _ _).mono ?_; rintro e w1 ⟨rfl, rfl⟩) | (go_at_call 146; refine (pwSum_any N B P _ (by omega) (by omega) (by omega) (by omega)).mono ?_; rintro e w1 ⟨rfl, rfl⟩))
      go_ret2
      exact ⟨by unfold R_PowerSum; rw [HV.out, HO.out]; rfl, Below.refl _ _⟩
    · have a2 : decide (Pow p 8) = false := decide_eq_false hp
      have HO := Lib.hid (OK3_no (n := n) (b := b) (fun h => hp h.2.2))
      have HV := Lib.hid (show V_PowerSum n b p = 0 by unfold V_PowerSum; rw [HO.out]; rfl)
      clear hq hp
      go_enter Tryz.func93, Tryz.ntmps93
      go_wp2_with (first | (go_at_call 53; refine (dgAsked_any _ _ _).mono ?_; rintro e w1 ⟨rfl, rfl⟩) | (go_at_call 145; refine (pwPower_any _ _ _).mono ?_; rintro e w1 ⟨rfl, rfl⟩))
      go_ret2
      exact ⟨by unfold R_PowerSum; rw [HV.out, HO.out]; rfl, Below.refl _ _⟩
  · have a1 : decide (Num n ∧ Bas b) = false := decide_eq_false hq
    have HO := Lib.hid (OK3_no (p := p) (m := 8) (fun h => hq ⟨h.1, h.2.1⟩))
    have HV := Lib.hid (show V_PowerSum n b p = 0 by unfold V_PowerSum; rw [HO.out]; rfl)
    clear hq
    go_enter Tryz.func93, Tryz.ntmps93
    go_wp2_with (go_at_call 53; refine (dgAsked_any _ _ _).mono ?_; rintro e w1 ⟨rfl, rfl⟩)
    go_ret2
    exact ⟨by unfold R_PowerSum; rw [HV.out, HO.out]; rfl, Below.refl _ _⟩

theorem impl_PowerSum (n b p : Int) (w : World) :
    Calls Tryz.prog 188 #[.int .i64 n, .int .i64 b, .int .i64 p] w fun e w' => e = .returned (R_PowerSum n b p) ∧ Below w.heap.size w w' := by
  by_cases hn : Num n
  · have a1 : decide (Num n) = true := decide_eq_true hn
    by_cases hb : Bas b
    · have a2 : decide (Bas b) = true := decide_eq_true hb
      by_cases hp : Pow p 8
      · have a3 : decide (Pow p 8) = true := decide_eq_true hp
        have HO := Lib.hid (OK3_yes hn hb hp)
        obtain ⟨n0, n1⟩ := hn
        obtain ⟨b0, b1⟩ := hb
        obtain ⟨p0, p1⟩ := hp
        obtain ⟨N, rfl⟩ : ∃ N : Nat, n = (N : Int) := ⟨n.toNat, by omega⟩
        obtain ⟨B, rfl⟩ : ∃ B : Nat, b = (B : Int) := ⟨b.toNat, by omega⟩
        obtain ⟨P, rfl⟩ : ∃ P : Nat, p = (P : Int) := ⟨p.toNat, by omega⟩
        have HV := Lib.hid (show V_PowerSum (N : Int) (B : Int) (P : Int) = ((ps B P N : Nat) : Int) by unfold V_PowerSum; rw [if_pos HO.out]; rfl)
        go_enter Tryz.func188, Tryz.ntmps188
        go_wp2_with (first | (go_at_call 46; refine (isNumber_any _ _).mono ?_; rintro e w1 ⟨rfl, rfl⟩) | (go_at_call 47; refine (isBase_any _ _).mono ?_; rintro e w1 ⟨rfl, rfl⟩) | (go_at_call 242; refine (isPower_any _ _ _).mono ?_; rintro e w1 ⟨rfl, rfl⟩))
        refine (powersOf_any B P _ (by omega) (by omega) (by omega) (by omega)).mono ?_
        rintro e w1 ⟨g, c, rfl, hg, hT, hB⟩
        have HT := Lib.hid hT
        have HB := Lib.hid hB
        clear hg hT hB
        go_wp2_with fail
        refine (sumP_any g c B P N _ HT.out (by omega) (by omega) (by omega) (by omega) (by omega)).mono ?_
        rintro e w2 ⟨rfl, hb⟩
        have HB2 := Lib.hid (Below.step HB.out HB.out.size hb)
        clear hb
        go_wp2
        go_ret2
        exact ⟨by unfold R_PowerSum; rw [HV.out, HO.out]; rfl, HB2.out⟩
      · have a3 : decide (Pow p 8) = false := decide_eq_false hp
        have HO := Lib.hid (OK3_no (n := n) (b := b) (fun h => hp h.2.2))
        have HV := Lib.hid (show V_PowerSum n b p = 0 by unfold V_PowerSum; rw [HO.out]; rfl)
        clear hn hb hp
        go_enter Tryz.func188, Tryz.ntmps188
        go_wp2_with (first | (go_at_call 46; refine (isNumber_any _ _).mono ?_; rintro e w1 ⟨rfl, rfl⟩) | (go_at_call 47; refine (isBase_any _ _).mono ?_; rintro e w1 ⟨rfl, rfl⟩) | (go_at_call 242; refine (isPower_any _ _ _).mono ?_; rintro e w1 ⟨rfl, rfl⟩))
        go_ret2
        exact ⟨by unfold R_PowerSum; rw [HV.out, HO.out]; rfl, Below.refl _ _⟩
    · have a2 : decide (Bas b) = false := decide_eq_false hb
      have HO := Lib.hid (OK3_no (n := n) (p := p) (m := 8) (fun h => hb h.2.1))
      have HV := Lib.hid (show V_PowerSum n b p = 0 by unfold V_PowerSum; rw [HO.out]; rfl)
      clear hn hb
      go_enter Tryz.func188, Tryz.ntmps188
      go_wp2_with (first | (go_at_call 46; refine (isNumber_any _ _).mono ?_; rintro e w1 ⟨rfl, rfl⟩) | (go_at_call 47; refine (isBase_any _ _).mono ?_; rintro e w1 ⟨rfl, rfl⟩))
      go_ret2
      exact ⟨by unfold R_PowerSum; rw [HV.out, HO.out]; rfl, Below.refl _ _⟩
  · have a1 : decide (Num n) = false := decide_eq_false hn
    have HO := Lib.hid (OK3_no (b := b) (p := p) (m := 8) (fun h => hn h.1))
    have HV := Lib.hid (show V_PowerSum n b p = 0 by unfold V_PowerSum; rw [HO.out]; rfl)
    clear hn
    go_enter Tryz.func188, Tryz.ntmps188
    go_wp2_with (go_at_call 46; refine (isNumber_any _ _).mono ?_; rintro e w1 ⟨rfl, rfl⟩)
    go_ret2
    exact ⟨by unfold R_PowerSum; rw [HV.out, HO.out]; rfl, Below.refl _ _⟩

end Go.Proofs.YtlbjeiaihenjkaaGreatDoor

/- from S5: -/

