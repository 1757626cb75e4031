/-
  Joint text of C3, C4, O, PF: what each proves stands ahead of it.
-/
import Derived.Test.YtlbjeiaihenjkaaGreatDoorJ42
import Derived.Test.YtlbjeiaihenjkaaGreatDoorJ00
import Derived.OpenShut
import Derived.ChangeMaps5
import Derived.ProofKit
import Derived.Test.YtlbjeiaihenjkaaGreatDoorRows
/- from C3: The model's line of the desk.  -/
namespace Go.Proofs.YtlbjeiaihenjkaaGreatDoor
open Go.RowKit
set_option linter.unusedVariables false
set_option linter.unusedSimpArgs false
set_option maxRecDepth 100000

theorem spec_DeskLine_bad (n b : Int) (S : Tx) (h1 : ¬ (Num n ∧ Bas b)) (w : World) :
    Calls Tryz.prog 9 #[dsk n b, str S] w fun e w' => e = .returned (dlV (0, 0, [], false)) ∧ Below w.heap.size w w' := by
  have HI := Lib.hid (coGood_any n b)
  rw [decide_eq_false h1] at HI
  clear h1
  dsimp only [dlV]
  go_enter Tryz.func9, Tryz.ntmps9
  have BF := Lib.hid (cs_facts w n b)
  obtain ⟨v0, hv0⟩ : ∃ v0, v0 = (w.alloc (.cells #[.int .i64 n, .int .i64 b] 24)).alloc (.cells #[.int .i64 0, .int .i64 0] 24) := ⟨_, rfl⟩
  go_wp2_with fail
  rw [← hv0] at BF ⊢
  clear hv0
  refine (HI.out _).mono ?_
  rintro e w1 ⟨rfl, hb⟩
  have HA1 := Lib.hid (show Below (w.heap.size + 2) v0 w1 from hb.mono (by have := (BF.out v0 (Below.refl _ _)).2.2.2.2; omega))
  obtain ⟨k0, k1, B2, hb1, hs1⟩ := BF.out w1 HA1.out
  have HB1 := Lib.hid hb1
  have HX2 := Lib.hid B2
  have HS1 := Lib.hid hs1
  clear hb hb1 hs1
  obtain ⟨y0, e0⟩ := B2.cell 0 (by omega)
  obtain ⟨y1, e1⟩ := B2.cell 1 (by omega)
  have ef := B2.free
  clear B2
  go_wp2
  refine bodyPost_ret (ret_dk3 rfl _ _ (w.heap.size + 1) _ _ rfl HX2.out) rfl ?_
  exact ⟨rfl, set2_below HB1.out (by omega) _ _⟩
theorem spec_DeskLine_long (n b : Int) (S : Tx) (h1 : Num n ∧ Bas b) (h2 : ¬ S.length ≤ 3000) (w : World) :
    Calls Tryz.prog 9 #[dsk n b, str S] w fun e w' => e = .returned (dlV (0, 0, [], false)) ∧ Below w.heap.size w w' := by
  have HI := Lib.hid (coGood_any n b)
  rw [decide_eq_true h1] at HI
  have q3 : 3000 < (S.length : Int) := by omega
  clear h1 h2
  dsimp only [dlV]
  go_enter Tryz.func9, Tryz.ntmps9
  have BF := Lib.hid (cs_facts w n b)
  obtain ⟨v0, hv0⟩ : ∃ v0, v0 = (w.alloc (.cells #[.int .i64 n, .int .i64 b] 24)).alloc (.cells #[.int .i64 0, .int .i64 0] 24) := ⟨_, rfl⟩
  go_wp2_with fail
  rw [← hv0] at BF ⊢
  clear hv0
  refine (HI.out _).mono ?_
  rintro e w1 ⟨rfl, hb⟩
  have HA1 := Lib.hid (show Below (w.heap.size + 2) v0 w1 from hb.mono (by have := (BF.out v0 (Below.refl _ _)).2.2.2.2; omega))
  obtain ⟨k0, k1, B2, hb1, hs1⟩ := BF.out w1 HA1.out
  have HB1 := Lib.hid hb1
  have HX2 := Lib.hid B2
  have HS1 := Lib.hid hs1
  clear hb hb1 hs1
  obtain ⟨y0, e0⟩ := B2.cell 0 (by omega)
  obtain ⟨y1, e1⟩ := B2.cell 1 (by omega)
  have ef := B2.free
  clear B2
  go_wp2
  refine bodyPost_ret (ret_dk3 rfl _ _ (w.heap.size + 1) _ _ rfl HX2.out) rfl ?_
  exact ⟨rfl, set2_below HB1.out (by omega) _ _⟩
theorem spec_DeskLine_nl (n b : Int) (S : Tx) (h1 : Num n ∧ Bas b) (h3 : S.length ≤ 3000) (h4 : 1 ≤ S.count 10) (w : World) :
    Calls Tryz.prog 9 #[dsk n b, str S] w fun e w' => e = .returned (dlV (0, 0, [], false)) ∧ Below w.heap.size w w' := by
  have HI := Lib.hid (coGood_any n b)
  rw [decide_eq_true h1] at HI
  have HK := Lib.hid (fun w' => show Calls Tryz.prog 34 #[str S, .int .u8 10] w' fun e w'' => ∃ g cap, e = .returned (.slice (some ⟨g, 0, none⟩) (S.count 10 + 1) cap) ∧ Below w'.heap.size w' w'' from (l1Split_any S 10 10 rfl (by omega) w').mono (by
    rintro e w'' ⟨g, cp, rfl, _, hb⟩
    exact ⟨g, cp, by rw [show (spl 10 S).length = S.count 10 + 1 from spA_len 10 S []], hb⟩))
  obtain ⟨N, hN⟩ : ∃ N, N = S.count 10 := ⟨_, rfl⟩
  rw [← hN] at HK h4
  have q4 : 1 < ((N + 1 : Nat) : Int) := by omega
  have L3 := Lib.hid h3
  have q3 : ¬ (3000 < (S.length : Int)) := by omega
  clear h1 h4 h3 hN
  dsimp only [dlV]
  go_enter Tryz.func9, Tryz.ntmps9
  have BF := Lib.hid (cs_facts w n b)
  obtain ⟨v0, hv0⟩ : ∃ v0, v0 = (w.alloc (.cells #[.int .i64 n, .int .i64 b] 24)).alloc (.cells #[.int .i64 0, .int .i64 0] 24) := ⟨_, rfl⟩
  go_wp2_with fail
  rw [← hv0] at BF ⊢
  clear hv0
  refine (HI.out _).mono ?_
  rintro e w1 ⟨rfl, hb⟩
  have HA1 := Lib.hid (show Below (w.heap.size + 2) v0 w1 from hb.mono (by have := (BF.out v0 (Below.refl _ _)).2.2.2.2; omega))
  obtain ⟨k0, k1, B2, hb1, hs1⟩ := BF.out w1 HA1.out
  have HB1 := Lib.hid hb1
  have HX2 := Lib.hid B2
  have HS1 := Lib.hid hs1
  clear hb hb1 hs1
  obtain ⟨y0, e0⟩ := B2.cell 0 (by omega)
  obtain ⟨y1, e1⟩ := B2.cell 1 (by omega)
  have ef := B2.free
  clear B2
  go_wp2_with fail
  refine (HK.out _).mono ?_
  rintro e w2 ⟨g, cp, rfl, hb⟩
  have HA2 := Lib.hid (HA1.out.trans (hb.mono HS1.out))
  clear hb k0 k1 e0 e1 ef HX2
  obtain ⟨k0, k1, B2, hb1, hs1⟩ := BF.out w2 HA2.out
  replace HB1 := Lib.hid hb1
  have HX2 := Lib.hid B2
  have HS2 := Lib.hid hs1
  clear hb1 hs1
  obtain ⟨y0, e0⟩ := B2.cell 0 (by omega)
  obtain ⟨y1, e1⟩ := B2.cell 1 (by omega)
  have ef := B2.free
  clear B2
  go_wp2
  refine bodyPost_ret (ret_dk3 rfl _ _ (w.heap.size + 1) _ _ rfl HX2.out) rfl ?_
  exact ⟨rfl, set2_below HB1.out (by omega) _ _⟩
theorem spec_DeskLine_ok (n b : Int) (S : Tx) (h1 : Num n) (h2 : Bas b) (h3 : S.length ≤ 3000) (h4 : S.count 10 = 0) (w : World) :
    Calls Tryz.prog 9 #[dsk n b, str S] w fun e w' => e = .returned (dlV ((lineF n b (spl 32 S)).1, (lineF n b (spl 32 S)).2.1, (lineF n b (spl 32 S)).2.2.txt, true)) ∧ Below w.heap.size w w' := by
  have HI := Lib.hid (coGood_any n b)
  rw [decide_eq_true (show Num n ∧ Bas b from ⟨h1, h2⟩)] at HI
  have HK := Lib.hid (fun w' => show Calls Tryz.prog 34 #[str S, .int .u8 10] w' fun e w'' => ∃ g cap, e = .returned (.slice (some ⟨g, 0, none⟩) (S.count 10 + 1) cap) ∧ Below w'.heap.size w' w'' from (l1Split_any S 10 10 rfl (by omega) w').mono (by
    rintro e w'' ⟨g, cp, rfl, _, hb⟩
    exact ⟨g, cp, by rw [show (spl 10 S).length = S.count 10 + 1 from spA_len 10 S []], hb⟩))
  rw [h4, Nat.zero_add] at HK
  have HX := Lib.hid (fun w' => coStep_any n b S (by omega) h1 h2 w')
  obtain ⟨n', b', rp, hR⟩ : ∃ n' b' rp, lineF n b (spl 32 S) = (n', b', rp) := ⟨_, _, _, rfl⟩
  rw [hR] at HX ⊢
  obtain ⟨Y, hY⟩ : ∃ Y, Y = rp.txt := ⟨_, rfl⟩
  simp only [stV] at HX
  rw [← hY] at HX ⊢
  have L3 := Lib.hid h3
  have q3 : ¬ (3000 < (S.length : Int)) := by omega
  clear h1 h2 h4 h3 hY hR
  dsimp only [dlV]
  go_enter Tryz.func9, Tryz.ntmps9
  have BF := Lib.hid (cs_facts w n b)
  obtain ⟨v0, hv0⟩ : ∃ v0, v0 = (w.alloc (.cells #[.int .i64 n, .int .i64 b] 24)).alloc (.cells #[.int .i64 0, .int .i64 0] 24) := ⟨_, rfl⟩
  go_wp2_with fail
  rw [← hv0] at BF ⊢
  clear hv0
  refine (HI.out _).mono ?_
  rintro e w1 ⟨rfl, hb⟩
  have HA1 := Lib.hid (show Below (w.heap.size + 2) v0 w1 from hb.mono (by have := (BF.out v0 (Below.refl _ _)).2.2.2.2; omega))
  obtain ⟨k0, k1, B2, hb1, hs1⟩ := BF.out w1 HA1.out
  have HB1 := Lib.hid hb1
  have HX2 := Lib.hid B2
  have HS1 := Lib.hid hs1
  clear hb hb1 hs1
  obtain ⟨y0, e0⟩ := B2.cell 0 (by omega)
  obtain ⟨y1, e1⟩ := B2.cell 1 (by omega)
  have ef := B2.free
  clear B2
  go_wp2_with fail
  refine (HK.out _).mono ?_
  rintro e w2 ⟨g, cp, rfl, hb⟩
  have HA2 := Lib.hid (HA1.out.trans (hb.mono HS1.out))
  clear hb k0 k1 e0 e1 ef HX2
  obtain ⟨k0, k1, B2, hb1, hs1⟩ := BF.out w2 HA2.out
  replace HB1 := Lib.hid hb1
  have HX2 := Lib.hid B2
  have HS2 := Lib.hid hs1
  clear hb1 hs1
  obtain ⟨y0, e0⟩ := B2.cell 0 (by omega)
  obtain ⟨y1, e1⟩ := B2.cell 1 (by omega)
  have ef := B2.free
  clear B2
  go_wp2_with fail
  refine (HX.out _).mono ?_
  rintro e w3 ⟨rfl, hb⟩
  have HA3 := Lib.hid (HA2.out.trans (hb.mono HS2.out))
  clear hb k0 k1 e0 e1 ef HX2 HB1
  have HA4 := Lib.hid (HA3.out.trans ((alloc_belowD w3 (.cells #[.int .i64 n', .int .i64 b'] 24)).mono (BF.out w3 HA3.out).2.2.2.2))
  obtain ⟨k0, k1, B2, hb1, hs1⟩ := BF.out _ HA4.out
  have HB1 := Lib.hid hb1
  have HX2 := Lib.hid B2
  clear hb1 hs1 k0 k1
  obtain ⟨y0, e0⟩ := B2.cell 0 (by omega)
  obtain ⟨y1, e1⟩ := B2.cell 1 (by omega)
  have ef := B2.free
  clear B2
  go_wp2
  refine bodyPost_ret (ret_dk3 rfl _ _ (w.heap.size + 1) _ _ rfl HX2.out) rfl ?_
  exact ⟨rfl, set2_below HB1.out (by omega) _ _⟩
theorem spec_DeskLine (n b : Int) (S : Tx) (w : World) : Calls Tryz.prog 9 #[dsk n b, str S] w fun e w' => e = .returned (dlV (dlF n b S)) ∧ Below w.heap.size w w' := by
  unfold dlF
  by_cases h1 : Num n ∧ Bas b
  · by_cases h2 : S.length ≤ 3000
    · by_cases h3 : S.count 10 = 0
      · rw [if_pos (show dlOk n b S from ⟨h1.1, h1.2, h2, h3⟩)]
        exact spec_DeskLine_ok n b S h1.1 h1.2 h2 h3 w
      · rw [if_neg (fun hh : dlOk n b S => h3 hh.2.2.2)]
        exact spec_DeskLine_nl n b S h1 h2 (by omega) w
    · rw [if_neg (fun hh : dlOk n b S => h2 hh.2.2.1)]
      exact spec_DeskLine_long n b S h1 h2 w
  · rw [if_neg (fun hh : dlOk n b S => h1 ⟨hh.1, hh.2.1⟩)]
    exact spec_DeskLine_bad n b S h1 w

end Go.Proofs.YtlbjeiaihenjkaaGreatDoor

/- from C4: The law of a line of the desk.  -/
namespace Go.Proofs.YtlbjeiaihenjkaaGreatDoor
open Go.RowKit
set_option linter.unusedVariables false
set_option linter.unusedSimpArgs false
set_option maxRecDepth 100000

/-- Two cells that lie in a block of their own, behind a new world. -/
theorem cell2_facts (w : World) (x0 x1 : Value) (t : TypeId) (w' : World) (hb : Below (w.heap.size + 1) (w.alloc (.cells #[x0, x1] t)) w') :
    w'.cell? ⟨w.heap.size, 0, none⟩ = some x0 ∧ w'.cell? ⟨w.heap.size, 1, none⟩ = some x1 ∧ Below w.heap.size w w' ∧ w.heap.size + 1 ≤ w'.heap.size := by
  have h := hb.size
  simp at h
  exact ⟨(hb.cell (p := ⟨w.heap.size, 0, none⟩) (by simp)).trans (by simp [go_sem]), (hb.cell (p := ⟨w.heap.size, 1, none⟩) (by simp)).trans (by simp [go_sem]), (alloc_belowD _ _).trans (hb.mono (by omega)), h⟩

theorem law_DeskLine (n b : Int) (S : Tx) (pn pw : Addr) (w : World) (h : Env w pn pw) : Calls Tryz.prog 3 #[dsk n b, str S] w fun e w' => e = .returned (.bool true) ∧ Below w.heap.size w w' := by
  have HD := Lib.hid (toDesk_any n b)
  have HI := Lib.hid (fun w' hw => impl_DeskLine n b S pn pw w' hw)
  have HS := Lib.hid (spec_DeskLine n b S)
  have HE := Lib.hid (fun w' (hb : Below w.heap.size w w') => h.keep hb)
  clear h
  obtain ⟨n', b', Y, q, hR⟩ : ∃ n' b' Y q, dlF n b S = (n', b', Y, q) := ⟨_, _, _, _, rfl⟩
  rw [hR] at HI HS
  clear hR
  have HQ := Lib.hid (eqDesk_same n' b')
  simp only [dlV] at HI HS
  have BF := Lib.hid (cell2_facts w (.int .i64 n) (.int .i64 b) 23)
  go_enter Tryz.func3, Tryz.ntmps3
  go_wp2_with fail
  · go_ret
    exact ⟨rfl, alloc_belowD _ _⟩
  obtain ⟨v0, hv0⟩ : ∃ v0, v0 = w.alloc (.cells #[.int .i64 n, .int .i64 b] 23) := ⟨_, rfl⟩
  rw [← hv0] at BF ⊢
  have Z0 := Lib.hid (show w.heap.size + 1 ≤ v0.heap.size by rw [hv0]; simp)
  clear hv0
  refine (HD.out _).mono ?_
  rintro e w1 ⟨rfl, hb⟩
  have A1 := Lib.hid (show Below (w.heap.size + 1) v0 w1 from hb.mono Z0.out)
  have Z1 := Lib.hid (BF.out _ A1.out).2.2.2
  clear hb
  go_wp2_with fail
  refine (HS.out _).mono ?_
  rintro e w2 ⟨rfl, hb⟩
  have A2 := Lib.hid (A1.out.trans (hb.mono Z1.out))
  have Z2 := Lib.hid (BF.out _ A2.out).2.2.2
  clear hb
  have BG := Lib.hid (cell2_facts w2 (.int .i64 n') (.int .i64 b') 24)
  obtain ⟨v2, hv2⟩ : ∃ v2, v2 = w2.alloc (.cells #[.int .i64 n', .int .i64 b'] 24) := ⟨_, rfl⟩
  have A3 := Lib.hid (show Below (w.heap.size + 1) v0 v2 from A2.out.trans (by rw [hv2]; exact (alloc_belowD _ _).mono Z2.out))
  have Y3 := Lib.hid (show w2.heap.size + 1 ≤ v2.heap.size by rw [hv2]; simp)
  obtain ⟨k0, k1, _, _⟩ := BF.out _ A3.out
  rw [← hv2] at BG
  rw [hv2] at k0 k1
  go_wp2_with fail
  rw [← hv2]
  clear hv2 k0 k1
  refine (HD.out _).mono ?_
  rintro e w3 ⟨rfl, hb⟩
  have A4 := Lib.hid (A3.out.trans (hb.mono (BF.out _ A3.out).2.2.2))
  have B4 := Lib.hid (show Below (w2.heap.size + 1) v2 w3 from hb.mono Y3.out)
  clear hb
  go_wp2_with fail
  refine (HI.out _ (HE.out _ (BF.out _ A4.out).2.2.1)).mono ?_
  rintro e w4 ⟨rfl, hb⟩
  have A5 := Lib.hid (A4.out.trans (hb.mono (BF.out _ A4.out).2.2.2))
  have B5 := Lib.hid (B4.out.trans (hb.mono (BG.out _ B4.out).2.2.2))
  clear hb
  have A6 := Lib.hid (A5.out.trans ((alloc_belowD w4 (.cells #[.int .i64 n', .int .i64 b'] 24)).mono (BF.out _ A5.out).2.2.2))
  have B6 := Lib.hid (B5.out.trans ((alloc_belowD w4 (.cells #[.int .i64 n', .int .i64 b'] 24)).mono (BG.out _ B5.out).2.2.2))
  obtain ⟨k0, k1, _, _⟩ := BG.out _ B6.out
  go_wp2_with fail
  refine (HQ.out _).mono ?_
  rintro e w5 ⟨rfl, hb⟩
  have A7 := Lib.hid (A6.out.trans (hb.mono (BF.out _ A6.out).2.2.2))
  clear hb k0 k1
  go_wp2
  go_ret
  exact ⟨rfl, (BF.out _ A7.out).2.2.1⟩

end Go.Proofs.YtlbjeiaihenjkaaGreatDoor

/- from O: An argument that came in, opened: a slice of integers; a string.  -/
namespace Go.Proofs.YtlbjeiaihenjkaaGreatDoor
open Go.ChangeShapes Go.WideShapes Go.ChangeAt Go.RowKit
set_option linter.unusedVariables false

theorem cellsI : Tryz.prog.cellsOf 3 = 1 := by kernel_rfl

set_option maxRecDepth 100000 in
theorem sl_open {H : Type} {enc : TypeId × Value → H} {W : World} {base : Nat} {v : Value} {d : DataW H} {p : List MemPlace} (hval : Value.okWide Tryz.prog W .any base 38 v)
    (h : DataW.Trod enc Tryz.prog W 0 (fun _ => true) true 38 v d p) (hlt : ∀ x ∈ p, x.block < W.heap.size) : ∃ xs, Sl W v xs := by
  obtain ⟨a0, len, cap, rfl⟩ := okWide_slice Tryz.underlying38 hval
  obtain ⟨fuel, hf⟩ := h
  rcases open_ints Tryz.underlying38 Tryz.underlying3 cellsI hf with ⟨hcs, hx⟩ | ⟨a, len', cap', zs, hcs, _, hl, hm, hz, hx, hcell, hwz⟩
  · simp [Value.cells] at hcs
    obtain ⟨rfl, rfl, rfl⟩ := hcs
    exact ⟨[], none, 0, rfl, .inl rfl⟩
  · simp [Value.cells] at hcs
    obtain ⟨rfl, rfl, rfl⟩ := hcs
    simp only [Prod.mk.injEq] at hx
    obtain ⟨rfl, rfl⟩ := hx
    simp only [if_true] at hz
    have hlen : (zs.take len).length = len := by simp; omega
    refine ⟨zs.take len, some a, cap, by rw [hlen], ?_⟩
    by_cases hl0 : len = 0
    · left
      rw [hl0]
      rfl
    · right
      obtain ⟨b, off, spot⟩ := a
      have hspot : spot = none := by simpa [Addr.add] using World.cell?_spot (hcell 0 (by omega))
      subst hspot
      have hbW : b < W.heap.size := hlt (.cell b off) (MemPlace.mem_row.2 ⟨0, by omega, by simp⟩)
      refine ⟨b, off, rfl, hbW, fun j hj => ?_⟩
      rw [← add_plain, hcell j (by omega)]
      have hj2 : j < zs.length := by omega
      simp [hj2]

set_option maxRecDepth 100000 in
theorem str_open {H : Type} {enc : TypeId × Value → H} {W : World} {base : Nat} {v : Value} {d : DataW H} {p : List MemPlace} (hval : Value.okWide Tryz.prog W .any base 9 v)
    (h : DataW.Trod enc Tryz.prog W 0 (fun _ => true) true 9 v d p) : ∃ s : ByteArray, v = .string s ∧ s.size ≤ maxLen := by
  obtain ⟨s, hv, _, _, hs⟩ := Go.ChangeMaps.open_string Tryz.underlying9 hval h
  exact ⟨s, hv, hs⟩

end Go.Proofs.YtlbjeiaihenjkaaGreatDoor

/- from PF: Facts of the whole translation that every statement's frame asks, checked once.  -/
namespace Go.Proofs.YtlbjeiaihenjkaaGreatDoor.whole
set_option linter.unusedVariables false

theorem laid : laidOutB Tryz.pinned.checked.prog = true := by kernel_rfl
theorem rowed : mapsRowed Tryz.pinned.checked.prog = true := by kernel_rfl
theorem plain : Tryz.pinned.checked.prog.plainKeys = true := by kernel_rfl
theorem heard : Tryz.pinned.checked.prog.stopsHeard = true := by kernel_rfl
theorem heads : (Tryz.pinned.checked.prog.mayEnter && (!Tryz.pinned.checked.prog.liftsFinal && (Tryz.pinned.checked.prog.make == some .cut))) = true := by kernel_rfl
theorem enter : Tryz.pinned.checked.prog.mayEnter = true := (Bool.and_eq_true _ _ ▸ heads).1
theorem lifts : Tryz.pinned.checked.prog.liftsFinal = false := by have h := heads; simp only [Bool.and_eq_true, Bool.not_eq_true'] at h; exact h.2.1
theorem made : Tryz.pinned.checked.prog.make = some .cut := by have h := heads; simp only [Bool.and_eq_true, beq_iff_eq] at h; exact h.2.2

end Go.Proofs.YtlbjeiaihenjkaaGreatDoor.whole
