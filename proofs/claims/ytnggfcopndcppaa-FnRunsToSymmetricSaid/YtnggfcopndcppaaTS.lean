/-
  The model's run of a number added to itself backwards.
-/
import Derived.Test.YtnggfcopndcppaaTG
import Derived.Test.YtnggfcopndcppaaTK
namespace Go.Proofs.Ytnggfcopndcppaa
open Go.RowKit
set_option linter.unusedVariables false
set_option linter.unusedSimpArgs false
set_option maxRecDepth 100000

theorem LLi.farN {w w' : World} {B D : Nat} {v u : Value} {vs : List Value} {ls : List (List Int)} {xs : List Int} (h : LLi w B v vs ls) (hw : w.heap.size ≤ D) (hu : Rd w' D u xs) : ∀ (i : Nat) (z : Value), vs[i]? = some z → z.ownBlock = none ∨ z.ownBlock ≠ u.ownBlock := fun i z hz => by
  obtain ⟨l, hl, hr⟩ := h.rd hz
  cases ho : z.ownBlock with
  | none => exact .inl rfl
  | some q =>
    refine .inr (fun e => ?_)
    have h1 := (hr.lt q ho).2
    have h2 := (hu.lt q e.symm).1
    omega

theorem LLi.one (w : World) (B : Nat) (u : Value) (l : List Int) (hu : Rd w B u l) (hB : B ≤ w.heap.size) : LLi (w.alloc (.cells #[u] 24)) B (.slice (some ⟨w.heap.size, 0, none⟩) 1 1) [u] [l] := by
  refine ⟨Rg.lit _ _ _ _ hB, rfl, fun i z m hz hm => ?_, fun i j z y hij hz hy => ?_⟩
  · match i, hz, hm with
    | 0, hz, hm => simp at hz hm; subst hz; subst hm; exact hu.alloc _
    | i + 1, hz, hm => simp at hz
  · have := (List.getElem?_eq_some_iff.1 hy).1
    simp at this
    omega

theorem LLi.get {w : World} {B : Nat} {v : Value} {vs : List Value} {ls : List (List Int)} (h : LLi w B v vs ls) (i : Nat) (hi : i < ls.length) : ∃ u g cap, vs[i]? = some u ∧ v = .slice (some ⟨g, 0, none⟩) ls.length cap ∧ w.cell? ⟨g, i, none⟩ = some u ∧ Rd w B u ls[i] := by
  have hl := h.len
  have hz : vs[i]? = some (vs[i]'(by omega)) := by simp [show i < vs.length by omega]
  rcases h.row.cases with ⟨_, h0⟩ | ⟨g, cap, hv⟩
  · rw [h0] at hl; simp at hl; omega
  · have hrow := h.row
    rw [hv] at hrow
    refine ⟨_, g, cap, hz, by rw [hv, hl], ?_, h.at' i _ _ hz (by simp [hi])⟩
    exact hrow.at.2.2.2.2.2.1 i (by omega)

theorem rvRun_any (v : Value) (xs : List Int) (b : Int) (most B : Nat) (w : World) (h : Rd w B v xs) (hd : Dg b xs) (hm : most ≤ 100) :
    Calls Try.prog 64 #[v, .int .i64 b, .int .i64 (most : Int)] w fun e w' => ∃ g cap vs, e = .returned (.slice (some ⟨g, 0, none⟩) (rvR b most xs).length cap) ∧ LLi w' w.heap.size (.slice (some ⟨g, 0, none⟩) (rvR b most xs).length cap) vs (rvR b most xs) ∧ Below w.heap.size w w' := by
  have H := Lib.hid h
  have HD := Lib.hid hd
  have h40 := hd.l40
  clear h hd
  obtain ⟨a, cap, rfl⟩ := H.out.sl.len
  go_enter Try.func64, Try.ntmps64
  go_wp2_with fail
  refine (l1Own_any _ _ _ _ H.out (by omega)).mono ?_
  rintro e w1 ⟨u, rfl, hr, hb⟩
  have R1 := Lib.hid hr
  have B1 := Lib.hid hb
  obtain ⟨au, cu, hu⟩ := hr.sl.len
  subst hu
  clear hr hb
  go_wp2
  go_loopw [7, 8] (fun o i wr => ∃ (vs : List Value) (ls : List (List Int)) (cur : List Int), i = .int .i64 (ls.length : Int) ∧ LLi wr w.heap.size o vs (ls ++ [cur]) ∧ RvS b most xs ls cur ∧ Below w.heap.size w wr) (fun _ i _ => most - (intOf i).toNat)
  case atStart => exact ⟨[_], [], xs, rfl, LLi.one _ _ _ _ R1.out B1.out.size, RvS.start most HD.out, Below.step B1.out B1.out.size (alloc_below w1 _)⟩
  case round =>
    obtain ⟨vs, ls, cur, rfl, hll, hrs, hb⟩ := hrel
    have HLL := Lib.hid hll
    have HRS := Lib.hid hrs
    have HB := Lib.hid hb
    obtain ⟨K, hK⟩ : ∃ K, K = ls.length := ⟨_, rfl⟩
    obtain ⟨z, g, c, hz, hv, hcell, hrz⟩ := hll.get K (by rw [hK, List.length_append]; simp)
    have hcur : (ls ++ [cur])[K]'(by rw [hK, List.length_append]; simp) = cur := by simp [hK]
    rw [hcur] at hrz
    have hLL : (ls ++ [cur]).length = K + 1 := by rw [hK, List.length_append]; rfl
    rw [hLL] at hv
    have HV := Lib.hid hv
    have RZ := Lib.hid hrz
    have hkm : K ≤ most := by rw [hK]; exact hrs.le
    have HDC := Lib.hid hrs.dg
    have hc40 := hrs.dg.l40
    obtain ⟨az, cz, hzv⟩ := hrz.sl.len
    have HZV := Lib.hid hzv
    have HKK := Lib.hid hK
    have HZ := Lib.hid hz
    rw [hzv] at hcell
    rw [← hK]
    subst hv
    rw [← hzv] at hcell
    clear hll hrs hb hrz hcur hLL hK hz
    subst hzv
    by_cases hlt : K < most
    · have hltI : (K : Int) < (most : Int) := by omega
      by_cases hp : palB cur = true
      · have HP := Lib.hid hp
        have HE := Lib.hid (HRS.out.endPal hp)
        clear hp
        go_wp2_with (go_at_call 58; go_loud (refine (dgPalindrome_any _ _ _ _ RZ.out (by omega)).mono ?_; rw [HP.out]; rintro e w2 ⟨rfl, hb2⟩; have L2 := Lib.hid (HLL.out.keep hb2); have B2 := Lib.hid (Below.step HB.out HB.out.size hb2); clear hb2))
        go_ret
        refine ⟨g, c, vs, ?_, ?_, B2.out⟩
        · rw [← HE.out, List.length_append, ← HKK.out]; rfl
        · rw [← HE.out, List.length_append, ← HKK.out]; exact L2.out
      · have hp' : palB cur = false := by simpa using hp
        have HP := Lib.hid hp'
        clear hp hp'
        go_wp2_with (go_at_call 58; go_loud (refine (dgPalindrome_any _ _ _ _ RZ.out (by omega)).mono ?_; rw [HP.out]; rintro e w2 ⟨rfl, hb2⟩; have L2 := Lib.hid (HLL.out.keep hb2); have B2 := Lib.hid (Below.step HB.out HB.out.size hb2); have R2 := Lib.hid (RZ.out.keep hb2); have hcell2 := Below.keeps_cell hb2 hcell; clear hb2))
        refine (rvAdd_any _ _ _ _ _ R2.out HDC.out).mono ?_
        rintro e w3 ⟨u1, u2, rfl, hr1, hr2, hb3⟩
        have L3 := Lib.hid (L2.out.keep hb3)
        have B3 := Lib.hid (Below.step B2.out B2.out.size hb3)
        have FAR := Lib.hid (L2.out.farN (Nat.le_refl _) hr1)
        have R3 := Lib.hid (hr1.mono B2.out.size)
        obtain ⟨a1, c1, hu1⟩ := hr1.sl.len
        subst hu1
        have HLB := Lib.hid (rvA_len HDC.out)
        clear hr1 hr2 hb3
        by_cases hle : (rvA b cur).length ≤ 40
        · have hle' : ¬ (40:Int) < ((rvA b cur).length : Int) := by omega
          have HVL := Lib.hid (show vs.length ≤ 1000 by rw [HLL.out.len, List.length_append, ← HKK.out]; simp; omega)
          have HNX := Lib.hid (HRS.out.step (by rw [← HKK.out]; exact hlt) HP.out hle)
          go_wp2_with (at_builtin; go_loud (refine wpList_appG rfl (.tmp 39) (.tmp 41) 36 24 (.slice none 0 0) 24 Try.underlying36 infoL (by omega) rfl rfl w.heap.size w.heap.size _ _ vs _ rfl rfl (L3.out.row.alloc _) (Rg.lit _ _ _ _ B3.out.size) (by simp [Value.oneCell']) (by have := HVL.out; simp; omega) (by have h1 := B3.out.size; simp; omega) ?_; intro v4 w4 hr4 hg4 hb4; have L4 := Lib.hid (L3.out.snoc R3.out FAR.out hr4 hg4); have B4 := Lib.hid ((B3.out.alloc B3.out.size _).trans hb4); clear hr4 hg4 hb4))
          go_roundw
          case rel => exact ⟨_, ls ++ [cur], rvA b cur, by rw [List.length_append, ← HKK.out]; go_num, L4.out, HNX.out, B4.out⟩
          case measure => simp [intOf]; omega
        · have hle' : (40:Int) < ((rvA b cur).length : Int) := by omega
          have HE := Lib.hid (HRS.out.endLong (by omega))
          go_wp2
          go_ret
          refine ⟨g, c, vs, ?_, ?_, B3.out⟩
          · rw [← HE.out, List.length_append, ← HKK.out]; rfl
          · rw [← HE.out, List.length_append, ← HKK.out]; exact L3.out
    · have hltI : ¬ (K : Int) < (most : Int) := by omega
      have HE := Lib.hid (HRS.out.endMost (by rw [← HKK.out]; omega))
      go_wp2
      go_ret
      refine ⟨g, c, ?_, ⟨vs, ?_⟩, HB.out⟩
      · rw [← HE.out, List.length_append, ← HKK.out]; rfl
      · rw [← HE.out, List.length_append, ← HKK.out]; exact HLL.out

end Go.Proofs.Ytnggfcopndcppaa
