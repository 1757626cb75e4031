/-
  Answers: numbers with as many digits as their power.
-/
import Derived.Test.YtejehmplebjnmaaVH
import Derived.Test.YtejehmplebjnmaaUK
namespace Go.Proofs.Ytejehmplebjnmaa
open Go.RowKit
set_option linter.unusedVariables false
set_option linter.unusedSimpArgs false
set_option maxRecDepth 100000

def OKN (k b : Int) : Bool := OKO b k
def LF_Narcissistic (k b : Int) : List Int := if OKN k b = true then (ownL b.toNat k.toNat).filter (keep' b.toNat k.toNat) else []
theorem LF_Narcissistic_len (k b : Int) : (LF_Narcissistic k b).length ≤ 2000000 := by
  unfold LF_Narcissistic OKN
  rcases oko_cases b k with ⟨h, B, P, rfl, rfl, h1, h2, h3, h4⟩ | h
  · rw [if_pos h]
    have := ownL_len h1 h2 h3 h4
    have h5 := List.length_filter_le (keep' B P) (ownL B P)
    show ((ownL B P).filter (keep' B P)).length ≤ _
    omega
  · rw [h]; simp

theorem own_small {b p : Nat} (hb : 2 ≤ b) (hb' : b ≤ 10) (hp : 1 ≤ p) (hp' : p ≤ 6) : ∀ x ∈ ownL b p, 0 ≤ x ∧ x ≤ 1000000000000 := by
  intro x hx
  obtain ⟨X, rfl, hX⟩ := (ownL_mem hb (show b ≤ 16 by omega) hp (show p ≤ 8 by omega) x).1 hx
  have h1 := ps_le p hb _ X (own_lt hb (by omega) hp (by omega) hX)
  have h2 := places_bd hb hb' hp hp'
  unfold places at h2
  have h3 := pow6 (show b - 1 ≤ 9 by omega) hp'
  have h4 := Nat.mul_le_mul h2 h3
  rw [hX] at h1
  omega

theorem narc_list {b k : Nat} (hb : 2 ≤ b) (hb' : b ≤ 16) (hp : 1 ≤ k) (hp' : k ≤ 8) {fs : List Int} (hR : fs.Pairwise (· < ·)) (hM : ∀ z, z ∈ fs ↔ Fnd b k k (b - 1) 0 (List.replicate b 0) z) : fs = (ownL b k).filter (keep' b k) := by
  refine rise_unique hR ((cano_rise _).sublist List.filter_sublist) (fun z => ?_)
  rw [hM z, fnd_all hb hp, List.mem_filter, ownL_mem hb hb' hp hp']
  constructor
  · rintro ⟨X, h1, h2, h3⟩
    exact ⟨⟨X, h1, h2⟩, by unfold keep' odd'; rw [h3]; simp⟩
  · rintro ⟨⟨X, h1, h2⟩, h3⟩
    refine ⟨X, h1, h2, ?_⟩
    unfold keep' odd' at h3
    simpa using h3

theorem spec_Narcissistic (k b : Int) (w : World) :
    Calls Try.prog 47 #[.int .i64 k, .int .i64 b] w fun e w' => ∃ u, e = .returned (.tuple #[u, .bool (OKN k b)]) ∧ Rd w' w.heap.size u (LF_Narcissistic k b) ∧ Below w.heap.size w w' := by
  rcases oko_cases b k with ⟨hok, B, P, rfl, rfl, h1, h2, h3, h4⟩ | hn
  · have HO := Lib.hid (show OKN (P : Int) (B : Int) = true from hok)
    have HL := Lib.hid (show LF_Narcissistic (P : Int) (B : Int) = (ownL B P).filter (keep' B P) by unfold LF_Narcissistic OKN; rw [if_pos hok]; rfl)
    have m0 : (2 : Int) ≤ (B : Int) := by omega
    have m1 : (B : Int) ≤ 10 := by omega
    have q0 : (1 : Int) ≤ (P : Int) := by omega
    have q1 : (P : Int) ≤ 6 := by omega
    have HM0 := Lib.hid (fun (fs : List Int) hR hM => narc_list (b := B) (k := P) (fs := fs) h1 (by omega) h3 (by omega) hR hM)
    obtain ⟨c, hc⟩ : ∃ c, c = B - 1 := ⟨_, rfl⟩
    have hb1 : (B : Int) - 1 = (c : Int) := by omega
    have HCC := Lib.hid hc
    have HS0 := Lib.hid (show Srch (w.alloc (.cells #[.int .i64 (B : Int), .int .i64 (P : Int), .slice none 0 0] 66)) w.heap.size B P (.slice none 0 0) from heap_alloc_new w _)
    have B0 := Lib.hid (alloc_below w (.cells #[.int .i64 (B : Int), .int .i64 (P : Int), .slice none 0 0] 66))
    have hs0 := (alloc_below w (.cells #[.int .i64 (B : Int), .int .i64 (P : Int), .slice none 0 0] 66)).size
    clear hok hc
    go_enter Try.func47, Try.ntmps47
    go_wp2_with fail
    refine (l1In_yes _ _ _ _ q0 q1).mono ?_
    rintro e w1 ⟨rfl, rfl⟩
    go_wp2_with fail
    refine (l1In_yes _ _ _ _ m0 m1).mono ?_
    rintro e w1 ⟨rfl, rfl⟩
    go_wp2_with (at_make; refine wpList_mkR rfl _ _ rfl .i64 .i64 _ _ B rfl rfl rfl rfl (by omega) ?_; intro w1 hr1 hg1 hb1'; have R1 := Lib.hid (hr1.mono hs0); have B1 := Lib.hid (Below.step B0.out hs0 hb1'); have S1 := Lib.hid (HS0.out.keep hb1'); clear hr1 hg1 hb1')
    have R1b := Lib.hid (show Rd w1 w.heap.size (.slice (some ⟨w.heap.size + 1, 0, none⟩) B B) (List.replicate B 0) by have h := R1.out; rwa [World.size_alloc] at h)
    clear R1
    refine (try_first _ B P w.heap.size h1 h2 h3 h4 P _ _ _ [] _ (by omega) S1.out (Rd.nil _ _) List.Pairwise.nil (fun z hz => by simp at hz) R1b.out B1.out.size c HCC.out).mono ?_
    rintro e w3 ⟨rfl, v3, fs3, hS3, hF3, hR3, hM3, hO3, hg3⟩
    have S3 := Lib.hid hS3
    have F3 := Lib.hid hF3
    have HE := Lib.hid (HM0.out fs3 hR3 (fun z => (hM3 z).trans ⟨fun h => h.elim (fun h => by simp at h) id, .inr⟩))
    have B3 := Lib.hid (B1.out.trans (gw_below' hg3 (Nat.le_refl _) B1.out.size))
    have hcf := hS3.c2
    obtain ⟨a, c4, rfl⟩ := hF3.sl.len
    clear hS3 hF3 hR3 hM3 hO3 hg3
    go_wp2
    go_ret2
    exact ⟨_, by rw [HO.out]; rfl, by rw [HL.out, ← HE.out]; exact F3.out, B3.out⟩
  · have HO := Lib.hid (show OKN k b = false from hn)
    have HL := Lib.hid (show LF_Narcissistic k b = [] by unfold LF_Narcissistic OKN; rw [hn]; rfl)
    have hnot := of_decide_eq_false hn
    by_cases hk : 1 ≤ k ∧ k ≤ 6
    · obtain ⟨q0, q1⟩ := hk
      have H := Lib.hid (show b < 2 ∨ 10 < b by
        by_cases h : 2 ≤ b ∧ b ≤ 10
        · exact absurd ⟨h, q0, q1⟩ hnot
        · omega)
      clear hn hnot
      go_enter Try.func47, Try.ntmps47
      go_wp2_with fail
      refine (l1In_yes _ _ _ _ q0 q1).mono ?_
      rintro e w1 ⟨rfl, rfl⟩
      go_wp2_with fail
      refine (l1In_no _ _ _ _ H.out).mono ?_
      rintro e w1 ⟨rfl, rfl⟩
      go_wp2
      go_ret2
      exact ⟨_, by rw [HO.out]; rfl, by rw [HL.out]; exact Rd.nil _ _, Below.refl _ _⟩
    · have H := Lib.hid (show k < 1 ∨ 6 < k by omega)
      clear hn hnot hk
      go_enter Try.func47, Try.ntmps47
      go_wp2_with (go_at_call 67; refine (l1In_no _ _ _ _ H.out).mono ?_; rintro e w1 ⟨rfl, rfl⟩)
      go_ret2
      exact ⟨_, by rw [HO.out]; rfl, by rw [HL.out]; exact Rd.nil _ _, Below.refl _ _⟩

theorem impl_Narcissistic (k b : Int) (w : World) :
    Calls Try.prog 48 #[.int .i64 k, .int .i64 b] w fun e w' => ∃ u, e = .returned (.tuple #[u, .bool (OKN k b)]) ∧ Rd w' w.heap.size u (LF_Narcissistic k b) ∧ Below w.heap.size w w' := by
  have hmf : ∀ (fn : Fn) (first cap : Array Value) (w : World), (Instr.makeFunc fn first cap).run Try.prog w = .ok (.func fn first cap) w := fun _ _ _ _ => rfl
  obtain ⟨W2, hW2⟩ : ∃ W2, W2 = (w.alloc (.cells #[.int .i64 k] 3)).alloc (.cells #[.int .i64 b] 3) := ⟨_, rfl⟩
  have HB2 := Lib.hid (show Below w.heap.size w W2 by rw [hW2]; exact (alloc_below w _).alloc (by simp) _)
  have HCK := Lib.hid (show W2.cell? ⟨w.heap.size, 0, none⟩ = some (.int .i64 k) by rw [hW2]; exact Go.Lib.cell?_alloc_some _ (by rw [cell_of_row _ w.heap.size 0 _ _ _ (heap_alloc_new w _)]; rfl))
  have HCB := Lib.hid (show W2.cell? ⟨w.heap.size + 1, 0, none⟩ = some (.int .i64 b) by rw [hW2, cell_alloc2]; rfl)
  have HSZ := Lib.hid (show W2.heap.size = w.heap.size + 2 by rw [hW2]; simp)
  have HW := Lib.hid hW2
  clear hW2
  rcases oko_cases b k with ⟨hok, B, P, rfl, rfl, h1, h2, h3, h4⟩ | hn
  · have HO := Lib.hid (show OKN (P : Int) (B : Int) = true from hok)
    have HL := Lib.hid (show LF_Narcissistic (P : Int) (B : Int) = (ownL B P).filter (keep' B P) by unfold LF_Narcissistic OKN; rw [if_pos hok]; rfl)
    have HOY := Lib.hid (own_yes B P · h1 h2 h3 h4)
    have HSM := Lib.hid (own_small h1 h2 h3 h4)
    have hol := ownL_len h1 h2 h3 h4
    obtain ⟨xs, hxs⟩ : ∃ xs, xs = ownL B P := ⟨_, rfl⟩
    rw [← hxs] at HOY HSM HL hol
    clear hok hxs
    go_enter Try.func48, Try.ntmps48
    go_wp2_with fail
    rw [← HW.out]
    refine (HOY.out _).mono ?_
    rintro e w3 ⟨gu, cu, rfl, hr, hb3⟩
    have R3 := Lib.hid hr
    have B3 := Lib.hid (Below.step HB2.out HB2.out.size hb3)
    have C3 := Lib.hid (Below.keeps_cell hb3 HCB.out)
    have K3 := Lib.hid (Below.keeps_cell hb3 HCK.out)
    have hsz := HSZ.out
    have hb3s := hb3.size
    clear hr hb3
    go_wp2_with fail
    refine (deleteFunc_any gu xs.length cu W2.heap.size B P (w.heap.size + 1) w.heap.size xs _ R3.out (by omega) HSM.out h1 (by omega) C3.out K3.out (by omega) (by omega) hb3s).mono ?_
    rintro e w4 ⟨m, rfl, hr4, hb4⟩
    have R4 := Lib.hid (hr4.mono HB2.out.size)
    have B4 := Lib.hid (B3.out.trans (hb4.mono HB2.out.size))
    clear hr4 hb4 hsz
    go_wp2
    go_ret2
    exact ⟨_, by rw [HO.out]; rfl, by rw [HL.out]; exact R4.out, B4.out⟩
  · have HO := Lib.hid (show OKN k b = false from hn)
    have HL := Lib.hid (show LF_Narcissistic k b = [] by unfold LF_Narcissistic OKN; rw [hn]; rfl)
    have HN := Lib.hid hn
    clear hn
    go_enter Try.func48, Try.ntmps48
    go_wp2_with fail
    rw [← HW.out]
    refine (own_no b k _ HN.out).mono ?_
    rintro e w3 ⟨rfl, rfl⟩
    go_wp2
    go_ret2
    exact ⟨_, by rw [HO.out]; rfl, by rw [HL.out]; exact Rd.nil _ _, HB2.out⟩

end Go.Proofs.Ytejehmplebjnmaa
