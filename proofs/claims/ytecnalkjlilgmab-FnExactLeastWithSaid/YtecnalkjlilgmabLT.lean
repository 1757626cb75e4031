/-
  LeastWith: the model whole, the law.
-/
import Derived.Test.YtecnalkjlilgmabLS
import Derived.Test.YtecnalkjlilgmabE
namespace Go.Proofs.Ytecnalkjlilgmab
open Go.RowKit
set_option linter.unusedVariables false
set_option linter.unusedSimpArgs false

theorem lead_bd (b : Int) (c0 : Nat) (tl : List Nat) (hlen : ((c0 :: tl).length : Int) = b) : ∀ x ∈ lead (c0 :: tl), 0 ≤ x ∧ x ≤ 1000000 ∨ b > 1000 := by
  intro x hx
  by_cases hb : b > 1000
  · exact .inr hb
  left
  cases h : flat tl 1 with
  | nil =>
    rw [lead_nil h] at hx
    split at hx <;> simp at hx
    omega
  | cons f t =>
    rw [lead_cons h] at hx
    have hm := fun y (hy : y ∈ f :: t) => flat_mem tl 1 y (by rw [h]; exact hy)
    simp at hlen
    rcases List.mem_cons.1 hx with rfl | hx
    · have := hm x (by simp); omega
    · rcases List.mem_append.1 hx with hx | hx
      · have := (List.mem_replicate.1 hx).2; omega
      · have := hm x (by simp [hx]); omega

theorem lead_len (c0 : Nat) (tl : List Nat) : (lead (c0 :: tl)).length ≤ (c0 :: tl).sum + 1 := by
  have h3 := flat_len tl 1
  cases h : flat tl 1 with
  | nil => rw [lead_nil h]; split <;> simp
  | cons f t => rw [lead_cons h]; rw [h] at h3; simp at h3 ⊢; omega

theorem spec_LeastWith (v : Value) (xs : List Int) (b : Int) (B : Nat) (w : World) (h : Rd w B v xs) (hl : xs.length ≤ 1048576) :
    Calls Try.prog 9 #[v, .int .i64 b] w fun e w' => e = .returned (optRes (RLeastWith b xs)) ∧ Below w.heap.size w w' := by
  obtain ⟨a, cap, rfl⟩ := h.shape
  have H := Lib.hid h
  clear h
  by_cases hB : Bas b
  · have a1 : decide (Bas b) = true := decide_eq_true hB
    have b0 := hB.1
    have b1 := hB.2
    by_cases hne : (xs.length : Int) = b
    · have hn := bne_no hne
      by_cases ha : allIn 0 40 xs = true
      · obtain ⟨c0, tl, hx, hlen, hall, hR⟩ := as_nats hB hne ha
        have HR := Lib.hid hR
        have HX := Lib.hid (show Rd w B (.slice a xs.length cap) (ints (c0 :: tl)) by rw [← hx]; exact H.out)
        have HLEN := Lib.hid hlen
        have HALL := Lib.hid hall
        have HBD := Lib.hid (ints_bd _ hall)
        have HS := Lib.hid (ints_sum (c0 :: tl))
        have hl16 : (c0 :: tl).length ≤ 16 := by omega
        have HL1 := Lib.hid (show (ints (c0 :: tl)).length ≤ 1000000 by rw [ints_len]; omega)
        have HLB := Lib.hid (lead_bd b c0 tl hlen)
        obtain ⟨s, hs⟩ : ∃ s, s = (c0 :: tl).sum := ⟨_, rfl⟩
        have HSS := Lib.hid hs
        have HSI := Lib.hid (show (ints (c0 :: tl)).sum = (s : Int) by rw [HS.out, hs])
        clear hB hne hx hlen hall hR hs
        by_cases h40 : s ≤ 40
        · have hlead := lead_len c0 tl
          rw [← HSS.out] at hlead
          by_cases hz : (lead (c0 :: tl)).length = 0
          · have hzb : (((lead (c0 :: tl)).length : Int) == 0) = true := beq_yes (by omega)
            have HRes := Lib.hid (show RLeast b (c0 :: tl) = none from if_neg (fun h => h.2 hz))
            have hzi : (lead (c0 :: tl)).length ≤ 0 := by omega
            have HZ := Lib.hid hz
            clear hz
            go_enter Try.func9, Try.ntmps9
            go_wp2_with (first | (go_at_call 23; refine (dgBase_any _ _).mono ?_; rintro e w' ⟨rfl, rfl⟩) | (go_at_call 24; refine (l1All_any _ _ _ _ _ _ H.out (by omega)).mono ?_; rintro e w' ⟨rfl, rfl⟩) | (go_at_call 25; refine (dgSum_any _ _ _ _ HX.out HBD.out HL1.out).mono ?_; rintro e w' ⟨rfl, rfl⟩; rw [HSI.out]))
            refine (dgLeast_any _ _ _ _ _ HX.out hl16 HALL.out (by rw [← HSS.out]; exact h40)).mono ?_
            rintro e w1 ⟨u, rfl, hr, hbl⟩
            obtain ⟨ao, co, rfl⟩ := hr.shape
            have HB := Lib.hid hbl
            clear hr hbl
            rw [HZ.out]
            go_wp2
            go_ret2
            exact ⟨by rw [HR.out, HRes.out]; rfl, HB.out⟩
          · have hzb : (((lead (c0 :: tl)).length : Int) == 0) = false := beq_no (by omega)
            have HRes := Lib.hid (show RLeast b (c0 :: tl) = numF b (lead (c0 :: tl)) 0 from if_pos ⟨by rw [← HSS.out]; exact h40, hz⟩)
            obtain ⟨L, hL⟩ : ∃ L, L = (lead (c0 :: tl)).length := ⟨_, rfl⟩
            rw [← hL] at hlead hzb hz
            have HL := Lib.hid hL
            have hz1 : 1 ≤ L := by omega
            clear hz hL
            go_enter Try.func9, Try.ntmps9
            go_wp2_with (first | (go_at_call 23; refine (dgBase_any _ _).mono ?_; rintro e w' ⟨rfl, rfl⟩) | (go_at_call 24; refine (l1All_any _ _ _ _ _ _ H.out (by omega)).mono ?_; rintro e w' ⟨rfl, rfl⟩) | (go_at_call 25; refine (dgSum_any _ _ _ _ HX.out HBD.out HL1.out).mono ?_; rintro e w' ⟨rfl, rfl⟩; rw [HSI.out]))
            refine (dgLeast_any _ _ _ _ _ HX.out hl16 HALL.out (by rw [← HSS.out]; exact h40)).mono ?_
            rintro e w1 ⟨u, rfl, hr, hbl⟩
            obtain ⟨ao, co, rfl⟩ := hr.shape
            rw [← HL.out] at hr ⊢
            have HRR := Lib.hid hr
            have HB := Lib.hid hbl
            clear hr hbl
            go_wp2_with fail
            refine (dgFrom_any _ _ _ _ _ HRR.out (fun x hx => by rcases HLB.out x hx with h | h; exact h; omega) b0 b1 (by rw [← HL.out]; omega)).mono ?_
            rintro e w3 ⟨rfl, rfl⟩
            go_wp2
            go_ret2
            exact ⟨by rw [HR.out, HRes.out]; rfl, HB.out⟩
        · have HRes := Lib.hid (show RLeast b (c0 :: tl) = none from if_neg (fun h => h40 (by rw [HSS.out]; exact h.1)))
          go_enter Try.func9, Try.ntmps9
          go_wp2_with (first | (go_at_call 23; refine (dgBase_any _ _).mono ?_; rintro e w' ⟨rfl, rfl⟩) | (go_at_call 24; refine (l1All_any _ _ _ _ _ _ H.out (by omega)).mono ?_; rintro e w' ⟨rfl, rfl⟩) | (go_at_call 25; refine (dgSum_any _ _ _ _ HX.out HBD.out HL1.out).mono ?_; rintro e w' ⟨rfl, rfl⟩; rw [HSI.out]))
          go_ret2
          exact ⟨by rw [HR.out, HRes.out]; rfl, Below.refl _ _⟩
      · have ha' : allIn 0 40 xs = false := by simpa using ha
        have hR := Lib.hid (show RLeastWith b xs = none from if_neg (fun h => ha h.2.2))
        clear hB hne ha
        go_enter Try.func9, Try.ntmps9
        go_wp2_with (first | (go_at_call 23; refine (dgBase_any _ _).mono ?_; rintro e w' ⟨rfl, rfl⟩) | (go_at_call 24; refine (l1All_any _ _ _ _ _ _ H.out (by omega)).mono ?_; rintro e w' ⟨rfl, rfl⟩))
        go_ret2
        exact ⟨by rw [hR.out]; rfl, Below.refl _ _⟩
    · have hn := bne_yes hne
      have hR := Lib.hid (show RLeastWith b xs = none from if_neg (fun h => hne h.2.1))
      clear hB hne
      go_enter Try.func9, Try.ntmps9
      go_wp2_with (first | (go_at_call 23; refine (dgBase_any _ _).mono ?_; rintro e w' ⟨rfl, rfl⟩))
      go_ret2
      exact ⟨by rw [hR.out]; rfl, Below.refl _ _⟩
  · have a1 : decide (Bas b) = false := decide_eq_false hB
    have hR := Lib.hid (show RLeastWith b xs = none from if_neg (fun h => hB h.1))
    clear hB
    go_enter Try.func9, Try.ntmps9
    go_wp2_with (first | (go_at_call 23; refine (dgBase_any _ _).mono ?_; rintro e w' ⟨rfl, rfl⟩))
    go_ret2
    exact ⟨by rw [hR.out]; rfl, Below.refl _ _⟩

theorem law_LeastWith {W : World} (v : Value) (xs : List Int) (hs : Sl W v xs) (b : Int) :
    Calls Try.prog 3 #[v, .int .i64 b] W fun e w' => e = .returned (.bool true) ∧ Below W.heap.size W w' := by
  obtain ⟨a, cap, rfl⟩ := hs.len
  have HS := Lib.hid hs
  clear hs
  by_cases hl : xs.length ≤ 1048576
  · go_enter Try.func3, Try.ntmps3
    go_wp2_with fail
    refine (toIntS_any _ _ _ HS.out (by omega)).mono ?_
    rintro e w1 ⟨u1, rfl, hr1, hb1⟩
    have R1 := Lib.hid hr1
    have B1 := Lib.hid hb1
    clear hr1 hb1
    go_wp2_with fail
    refine (spec_LeastWith _ _ _ _ _ R1.out hl).mono ?_
    rintro e w1b ⟨rfl, hb1b⟩
    have B1b := Lib.hid (Below.step B1.out B1.out.size hb1b)
    clear hb1b
    go_wp2_with fail
    refine (toIntS_any _ _ _ (HS.out.keep B1b.out) (by omega)).mono ?_
    rintro e w2 ⟨u2, rfl, hr2, hb2⟩
    have R2 := Lib.hid hr2
    have B2 := Lib.hid (Below.step B1b.out B1b.out.size hb2)
    clear hr2 hb2
    go_wp2_with fail
    refine (impl_LeastWith _ _ _ _ _ R2.out hl).mono ?_
    rintro e w2b ⟨rfl, hb2b⟩
    have R2b := Lib.hid (R2.out.keep hb2b)
    have B2b := Lib.hid (Below.step B2.out B2.out.size hb2b)
    clear hb2b
    go_wp2_with fail
    refine (toIntS_any _ _ _ (HS.out.keep B2b.out) (by omega)).mono ?_
    rintro e w3 ⟨u3, rfl, hr3, hb3⟩
    have R3 := Lib.hid hr3
    have R2' := Lib.hid (R2b.out.keep hb3)
    have B3 := Lib.hid (Below.step B2b.out B2b.out.size hb3)
    clear hr3 hb3
    go_wp2_with fail
    refine (eqIntS_any _ _ xs xs _ R2'.out.sl R3.out.sl (by omega) (by omega)).mono ?_
    rintro e w4 ⟨rfl, hb4⟩
    have B4 := Lib.hid (Below.step B3.out B3.out.size hb4)
    clear hb4
    go_wp2
    go_ret
    exact ⟨rfl, B4.out⟩
  · go_enter Try.func3, Try.ntmps3
    go_wp2
    go_ret
    exact ⟨rfl, Below.refl _ _⟩


end Go.Proofs.Ytecnalkjlilgmab
