/-
  The program's CyclesWith.
-/
import Derived.Test.YtbgnieajeipllaaV9
import Derived.Test.YtbgnieajeipllaaYE
import Derived.WalkMore
namespace Go.Proofs.Ytbgnieajeipllaa
open Go.RowKit
set_option linter.unusedVariables false
set_option linter.unusedSimpArgs false
set_option maxRecDepth 100000

theorem farI {w : World} {D : Nat} {v u : Value} {vs : List Value} {xs : List Int} (hd : Und D v vs) (hu : Rd w D u xs) : ∀ (i : Nat) (z : Value), vs[i]? = some z → z.ownBlock = none ∨ z.ownBlock ≠ u.ownBlock := fun i z hz => by
  cases hq : z.ownBlock with
  | none => exact .inl rfl
  | some k =>
    right
    intro e
    have h1 := (hu.lt k e.symm).1
    have h2 := hd.2 i z hz k hq
    omega
theorem acc_pos {d : Int} {k : Nat} {a : List (List Int)} (h : accC d (k + 1) = some a) : a ≠ [] := by
  rw [accC] at h
  cases h1 : accC d k with
  | none => rw [h1] at h; simp at h
  | some b =>
    rw [h1] at h
    cases h2 : cyO d ((k : Int) + 1) with
    | none => rw [h2] at h; simp at h
    | some c =>
      rw [h2] at h
      simp only [Option.bind_some, Option.map_some, Option.some.injEq] at h
      subst h
      unfold addC
      split
      · rename_i h3
        obtain ⟨k, hk, _⟩ := hasH_iff.1 h3
        exact List.ne_nil_of_mem hk
      · simp
theorem hasH_upto {a : List (List Int)} {x : Int} (h : ∀ t, t < a.length → hd0 (lisR a t) ≠ x) : hasH a x = false := by
  rw [← Bool.not_eq_true, hasH_iff]
  rintro ⟨k, hk, e⟩
  obtain ⟨i, hi⟩ := List.getElem?_of_mem hk
  obtain ⟨h1, _⟩ := List.getElem?_eq_some_iff.1 hi
  have h2 := lisR_get h1
  rw [hi] at h2
  cases h2
  exact h i h1 e
theorem hasH_at {a : List (List Int)} {x : Int} {t : Nat} (h : t < a.length) (e : hd0 (lisR a t) = x) : hasH a x = true :=
  hasH_iff.2 ⟨_, List.mem_of_getElem? (lisR_get h), e⟩

theorem below_dN {B : Nat} {a w : World} (h : Below B a w) (n : Nat) : Below B a (w.drewN n) := ⟨h.os, h.tape, h.output, h.size, h.block⟩
theorem LLi.dN {w : World} {B : Nat} {v : Value} {vs : List Value} {ls : List (List Int)} (h : LLi w B v vs ls) (n : Nat) : LLi (w.drewN n) B v vs ls :=
  ⟨h.row, h.len, fun i u l hu hl => h.at' i u l hu hl, h.apart⟩
theorem addC_old {a : List (List Int)} {c : List Int} (h : hasH a (hd0 c) = true) : addC a c = a := if_pos h
theorem addC_new {a : List (List Int)} {c : List Int} (h : hasH a (hd0 c) = false) : addC a c = a ++ [c] := by unfold addC; rw [h]; rfl
/-- The cell of a list's first number. -/
theorem head_cell {w : World} {B : Nat} {v : Value} {l : List Int} (h : Rd w B v l) (h0 : 0 < l.length) : ∃ g c, v = .slice (some ⟨g, 0, none⟩) l.length c ∧ 0 < c ∧ w.cell? ⟨g, 0, none⟩ = some (.int .i64 (hd0 l)) := by
  rcases h.cases with ⟨_, hx⟩ | ⟨g, c, hu, _, _, hc, _, hcell, _⟩
  · rw [hx] at h0; simp at h0
  · refine ⟨g, c, hu, by omega, ?_⟩
    rw [hcell 0 h0]
    simp [hd0, List.getD_eq_getElem?_getD, h0]

set_option maxHeartbeats 4000000 in
theorem impl_cycles (d : Int) (M : Nat) (w : World) (hd : Add d) (hM : 1 ≤ M) (hM2 : M ≤ 200) :
    Calls Try.prog 47 #[.int .i64 d, .int .i64 (M : Int)] w fun e w' => ∃ u vs, e = .returned (.tuple #[u, .bool (accC d M).isSome]) ∧ LLi w' w.heap.size u vs ((outC d M).getD []) ∧ Below w.heap.size w w' := by
  have a1 := add_yes hd
  have d0 : 0 ≤ d := by have := hd.1; omega
  have d1 : d ≤ 99 := hd.2.1
  have HA := Lib.hid (fun k => acc_out d k)
  have m0 : (1 : Int) ≤ (M : Int) := by omega
  have m1 : (M : Int) ≤ 200 := by omega
  clear hd
  go_enter Try.func47, Try.ntmps47
  go_wp2
  go_step3
  go_wp2_with (go_at_call 77; refine (isStepAdded_any _ _).mono ?_; rintro e w1 ⟨rfl, rfl⟩)
  go_step3
  go_wp2
  go_loopw [6, 7] (fun v i wr => ∃ (k : Nat) (a : List (List Int)) (vs : List Value), k ≤ M ∧ i = .int .i64 ((k : Int) + 1) ∧ Hid (accC d k = some a) ∧ LLi wr w.heap.size v vs a ∧ Below w.heap.size w wr) (fun _ i _ => M + 1 - (intOf i).toNat)
  case atStart => exact ⟨0, [], [], Nat.zero_le _, rfl, Lib.hid rfl, LLi.nil _ _, Below.refl _ _⟩
  case round =>
    rename World => wa
    obtain ⟨k, a, vs, hk, rfl, HC, hv, hbl⟩ := hrel
    have HV := Lib.hid hv
    have HB := Lib.hid hbl
    clear hv hbl
    obtain ⟨o, ho, hao⟩ : ∃ o, outC d k = some o ∧ a.Perm o ∧ Asc o ∧ (∀ l ∈ a, 0 < l.length ∧ l.length ≤ 1000) ∧ a.length ≤ k := by
      rcases HA.out k (by omega) with ⟨h1, _⟩ | ⟨a', o, h1, h2, h3⟩
      · rw [HC.out] at h1; cases h1
      · rw [HC.out] at h1; cases h1; exact ⟨o, h2, h3⟩
    have HO := Lib.hid ho
    have HAO := Lib.hid hao
    clear ho hao
    by_cases hlt : k < M
    · have HF := Lib.hid (fun g w' h => cycleFrom_any ((k : Int) + 1) d g w' ⟨by omega, by omega⟩ d0 d1 h)
      obtain ⟨X, hX⟩ : ∃ X, X = cyO d ((k : Int) + 1) := ⟨_, rfl⟩
      have HX := Lib.hid hX
      rw [← hX] at HF
      clear hX
      cases X with
      | none =>
        have HN := Lib.hid (accC_none (show accC d (k + 1) = none by rw [accC, HC.out, ← HX.out]; rfl) M (by omega))
        have HN2 := Lib.hid (outC_none (show outC d (k + 1) = none by rw [outC, HO.out, ← HX.out]; rfl) M (by omega))
        go_wp2_with (first
          | (go_at_call 55; refine (stepWith_any _ _).mono ?_; rintro e w1 ⟨g, rfl, hg, hc, hb⟩; have HB1 := Lib.hid (Below.step HB.out HB.out.size hb); have HC1 := Lib.hid hc; clear hb hg hc)
          | (go_at_call 79; refine (HF.out g _ HC1.out).mono ?_; rintro e w2 ⟨v, rfl, hr, hb⟩; have HB2 := Lib.hid (Below.step HB1.out HB1.out.size hb); clear hr hb))
        rw [Exit.noGoto_ret]
        go_ret2
        exact ⟨_, [], by rw [HN.out]; rfl, by rw [HN2.out]; exact LLi.nil _ _, HB2.out⟩
      | some c =>
        have hg := cyO_good (show Nst ((k : Int) + 1) from ⟨by omega, by omega⟩) HX.out.symm
        have HG := Lib.hid hg
        clear hg
        have HN := Lib.hid (show accC d (k + 1) = some (addC a c) by rw [accC, HC.out, ← HX.out]; rfl)
        go_wp2_with fail
        refine (stepWith_any _ _).mono ?_
        rintro e w1 ⟨g, rfl, hg, hc, hb⟩
        have HB1 := Lib.hid (Below.step HB.out HB.out.size hb)
        have HV1 := Lib.hid (HV.out.keep hb)
        have HC1 := Lib.hid hc
        clear hb hg hc
        go_wp2_with fail
        refine (HF.out g _ HC1.out).mono ?_
        rintro e w2 ⟨v, rfl, hr, hb⟩
        have HB2 := Lib.hid (Below.step HB1.out HB1.out.size hb)
        have HV2 := Lib.hid (HV1.out.keep hb)
        have HFA := Lib.hid (farI HV1.out.f.und hr)
        have HU2 := Lib.hid (show Rd w2 w.heap.size v c from hr.mono HB1.out.size)
        clear hr hb
        obtain ⟨gc, cc, rfl, hcc, hcell⟩ := head_cell HU2.out HG.out.1
        obtain ⟨C, hCl⟩ : ∃ C, C = c.length := ⟨_, rfl⟩
        have hC0 : 0 < C := by rw [hCl]; exact HG.out.1
        obtain ⟨x, hx⟩ : ∃ x, x = hd0 c := ⟨_, rfl⟩
        have HXX := Lib.hid hx
        rw [← hCl] at HU2 ⊢
        rw [← hx] at hcell
        clear hx hCl
        obtain ⟨a6, c6, rfl, hsh⟩ := HV2.out.f.shape
        obtain ⟨K, hK⟩ : ∃ K, K = vs.length := ⟨_, rfl⟩
        have HKL := Lib.hid (show K = a.length by rw [hK]; exact HV2.out.len)
        rw [← hK] at HV2 ⊢
        have HVK := Lib.hid hK
        have HSH := Lib.hid hsh
        have hKb : K ≤ 200 := by have := HAO.out.2.2.2; have := HKL.out; omega
        clear hK hsh HF HV HV1 HC1 HB HB1
        go_wp2
        have HCL := Lib.hid hcell
        clear hcell
        go_loopw [39] (fun i wt => ∃ j : Nat, j ≤ K ∧ i = .int .i64 (j : Int) ∧ Hid (∀ t, t < j → hd0 (lisR a t) ≠ x) ∧ Below w2.heap.size w2 wt) (fun i _ => K - (intOf i).toNat)
        case atStart => exact ⟨0, Nat.zero_le _, rfl, Lib.hid (fun t ht => by omega), Below.refl _ _⟩
        case round =>
          rename World => wt
          obtain ⟨j, hj, rfl, HNO, hbt⟩ := hrel
          have HBt := Lib.hid hbt
          have HVt := Lib.hid (HV2.out.keep hbt)
          have HUt := Lib.hid (HU2.out.keep hbt)
          have HB3 := Lib.hid (Below.step HB2.out HB2.out.size hbt)
          have hcell := Below.keeps_cell hbt HCL.out
          clear hbt
          by_cases hjl : j < K
          · obtain ⟨gv, rfl⟩ : ∃ gv, a6 = some ⟨gv, 0, none⟩ := by
              rcases HSH.out with h | h
              · have h2 := HVK.out; rw [h] at h2; simp at h2; omega
              · exact h
            have hjv : j < vs.length := by rw [← HVK.out]; exact hjl
            have hja : j < a.length := by rw [← HKL.out]; exact hjl
            have hz := HVt.out.at' j _ _ (encR_get hjv) (lisR_get hja)
            have hcz : wt.cell? ⟨gv, j, none⟩ = some (encR vs j) := LLf.cell HVt.out.f (encR_get hjv)
            obtain ⟨gz, cz, hze, hz0, hcl⟩ := head_cell hz (HAO.out.2.2.1 _ (List.mem_of_getElem? (lisR_get hja))).1
            rw [hze] at hcz
            obtain ⟨Z, hZ⟩ : ∃ Z, Z = (lisR a j).length := ⟨_, rfl⟩
            have hZ0 : 0 < Z := by rw [hZ]; exact (HAO.out.2.2.1 _ (List.mem_of_getElem? (lisR_get hja))).1
            rw [← hZ] at hcz
            obtain ⟨y, hy⟩ : ∃ y, y = hd0 (lisR a j) := ⟨_, rfl⟩
            have HY := Lib.hid hy
            rw [← hy] at hcl
            clear hz hze hZ hy hjv hja
            by_cases hxy : y = x
            · go_wp2_with fail
              go_quiet (fail)
              go_wp2_with fail
              have HOLD := Lib.hid (show addC a c = a from addC_old (hasH_at (t := j) (by rw [← HKL.out]; exact hjl) (by rw [← HY.out, hxy, HXX.out])))
              go_roundw
              case rel => exact ⟨k + 1, a, vs, by omega, by go_num, Lib.hid (by rw [HN.out, HOLD.out]), HVt.out.dN _, below_dN HB3.out _⟩
              case measure => simp [intOf]; omega
            · go_wp2_with fail
              go_quiet (fail)
              go_wp2_with fail
              have HYX := Lib.hid hxy
              go_roundw
              case rel => exact ⟨j + 1, by omega, by go_num, Lib.hid (fun t ht => by
                by_cases e : t = j
                · rw [e, ← HY.out]; exact HYX.out
                · exact HNO.out t (by omega)), below_dN HBt.out _⟩
              case measure => simp [intOf]; omega
          · obtain rfl : j = K := by omega
            have HNEW := Lib.hid (show addC a c = a ++ [c] from addC_new (hasH_upto (fun t ht => by rw [← HXX.out]; exact HNO.out t (by rw [HKL.out]; exact ht))))
            have HS2 := Lib.hid HB3.out.size
            go_wp2_with (at_builtin; refine wpList_appG rfl (.tmp 51) (.tmp 53) _ 25 (.slice none 0 0) 24 Try.underlying34 infoL (by omega) rfl rfl w.heap.size w.heap.size _ _ vs _ rfl rfl (HVt.out.row.alloc _) (Rg.lit _ _ _ _ HS2.out) (by simp [Value.oneCell']) (by rw [← HVK.out]; simp; omega) (by have := HS2.out; simp; omega) ?_; intro v3 w3 hr3 hg3 hb3; have N3 := Lib.hid (HVt.out.snoc HUt.out HFA.out hr3 hg3); have B3 := Lib.hid ((HB3.out.alloc HS2.out _).trans hb3); clear hr3 hg3 hb3)
            go_roundw
            case rel => exact ⟨k + 1, a ++ [c], vs ++ [.slice (some ⟨gc, 0, none⟩) C cc], by omega, by go_num, Lib.hid (by rw [HN.out, HNEW.out]), N3.out, B3.out⟩
            case measure => simp [intOf]; omega
    · obtain rfl : k = M := by omega
      have HPOS := Lib.hid (show a ≠ [] by
        obtain ⟨m, rfl⟩ : ∃ m, k = m + 1 := ⟨k - 1, by omega⟩
        exact acc_pos HC.out)
      obtain ⟨a6, c6, rfl, hsh⟩ := HV.out.f.shape
      have hvl := HV.out.len
      have hvp : 0 < vs.length := by
        rw [hvl]
        exact List.length_pos_iff.2 HPOS.out
      obtain ⟨gv, rfl⟩ : ∃ gv, a6 = some ⟨gv, 0, none⟩ := by
        rcases hsh with h | h
        · rw [h] at hvp; simp at hvp
        · exact h
      have hgb := (HV.out.row.at).2.1
      have HSO := Lib.hid (sortRows_any gv vs.length c6 w.heap.size vs a wa HV.out hvp (by have := HAO.out.2.2.2; omega) (fun l hl => by have := HAO.out.2.2.1 l hl; omega) (heads_inj HAO.out.1 HAO.out.2.1))
      obtain ⟨K, hK⟩ : ∃ K, K = vs.length := ⟨_, rfl⟩
      rw [← hK] at HSO HV ⊢
      clear hsh hK
      go_wp2_with (go_at_call 80; refine HSO.out.mono ?_; rintro e w1 ⟨rfl, vs', ls', hl, hp, hs, hg⟩; have HL1 := Lib.hid hl; have HE1 := Lib.hid (sorted_out HAO.out.1 HAO.out.2.1 hp hs); have HB1 := Lib.hid (HB.out.grown hg HB.out.size (fun k hk => by cases hk; exact hgb)); clear hl hp hs hg)
      rw [Exit.noGoto_ret]
      go_ret2
      exact ⟨_, vs', by rw [HC.out]; rfl, by rw [HO.out]; show LLi _ _ _ _ o; rw [← HE1.out]; exact HL1.out, HB1.out⟩

end Go.Proofs.Ytbgnieajeipllaa
