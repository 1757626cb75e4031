/-
  The program's proper run and its end behind an interface; the model's run.
-/
import Derived.Test.Ytlpmfapjgmhbhaa8G
import Derived.Test.Ytlpmfapjgmhbhaa8T
import Derived.Lib.Slices
namespace Go.Proofs.Ytlpmfapjgmhbhaa
open Go.RowKit
set_option linter.unusedVariables false
set_option linter.unusedSimpArgs false
set_option maxRecDepth 100000

/-- How a run ends, behind its interface. -/
def EndV (g cap : Nat) (E : Value) (r : List Int × Int) : Prop :=
  ((Dv r.2 ∧ r.2 ∈ r.1) ∧ E = .iface 70 (.slice (some ⟨g, plc r.2 r.1, none⟩) (r.1.length - plc r.2 r.1) (cap - plc r.2 r.1))) ∨
  (¬ (Dv r.2 ∧ r.2 ∈ r.1) ∧ E = .iface 71 (.int .i64 (endOf r)))

theorem rd_get {w : World} {B g n c : Nat} {xs : List Int} (h : Rd w B (.slice (some ⟨g, 0, none⟩) n c) xs) : ∀ j, j < xs.length → w.cell? ⟨g, 0 + j, none⟩ = some (.int .i64 (xs.getD j 0)) := by
  have := h.cellsAt 0
  rw [List.drop_zero] at this
  exact this

theorem rd_some {w : World} {B : Nat} {v : Value} {xs : List Int} (h : Rd w B v xs) (h1 : 1 ≤ xs.length) : ∃ g cap, v = .slice (some ⟨g, 0, none⟩) xs.length cap ∧ xs.length ≤ cap := by
  rcases h.cases with ⟨_, hx⟩ | ⟨g, cap, hu, _, _, h9, _⟩
  · rw [hx] at h1; simp at h1
  · exact ⟨g, cap, hu, h9⟩

theorem index_in {w : World} {B g c L : Nat} {xs : List Int} {x : Int} (h : Rd w B (.slice (some ⟨g, 0, none⟩) L c) xs) (hL : L = xs.length) (hl : xs.length ≤ 1000000) (hx : x ∈ xs) :
    Calls Try.prog 53 #[.slice (some ⟨g, 0, none⟩) L c, .int .i64 x] w fun e w' => e = .returned (.int .i64 (plc x xs : Int)) ∧ w' = w := by
  subst hL
  refine (Try.slices_Index_int g 0 xs.length c xs x w (Nat.le_refl _) (by omega) (rd_get h)).mono ?_
  rintro e w' ⟨rfl, rfl⟩
  obtain ⟨a1, a2, a3⟩ := ixN_spec xs hx
  rw [Lib.idxOf_hit xs xs.length (plc x xs) x a1 (Nat.le_refl _) a2 a3]
  exact ⟨rfl, rfl⟩
theorem index_out {w : World} {B g c L : Nat} {xs : List Int} {x : Int} (h : Rd w B (.slice (some ⟨g, 0, none⟩) L c) xs) (hL : L = xs.length) (hl : xs.length ≤ 1000000) (hx : x ∉ xs) :
    Calls Try.prog 53 #[.slice (some ⟨g, 0, none⟩) L c, .int .i64 x] w fun e w' => e = .returned (.int .i64 (-1)) ∧ w' = w := by
  subst hL
  refine (Try.slices_Index_int g 0 xs.length c xs x w (Nat.le_refl _) (by omega) (rd_get h)).mono ?_
  rintro e w' ⟨rfl, rfl⟩
  rw [Lib.idxOf_miss xs xs.length x (fun j hj e => hx (by rw [← e]; simp [hj]))]
  exact ⟨rfl, rfl⟩

theorem findRun_any (n m : Int) (w : World) (hn : Dv n) (hm : Tm m) :
    Calls Try.prog 48 #[.int .i64 n, .int .i64 m] w fun e w' => ∃ g cap L E, e = .returned (.tuple #[.slice (some ⟨g, 0, none⟩) L cap, E, .bool true]) ∧ L = (runR n m.toNat).1.length ∧ L ≤ cap ∧ Rd w' w.heap.size (.slice (some ⟨g, 0, none⟩) L cap) (runR n m.toNat).1 ∧ EndV g cap E (runR n m.toNat) ∧ Below w.heap.size w w' := by
  have a1 : decide (Dv n) = true := decide_eq_true hn
  have a2 : decide (Tm m) = true := decide_eq_true hm
  obtain ⟨M, hM⟩ : ∃ M, M = m.toNat := ⟨_, rfl⟩
  obtain ⟨m0, m1⟩ := hm
  have HMm := Lib.hid (show m = (M : Int) by omega)
  rw [← hM]
  obtain ⟨R, hR⟩ : ∃ R, R = runR n M := ⟨_, rfl⟩
  have HR0 := Lib.hid (show goR M [] n = R by rw [hR]; rfl)
  rw [← hR]
  have HN := Lib.hid hn
  rw [HMm.out] at a2 m0 m1 ⊢
  clear hR hM hn
  go_enter Try.func48, Try.ntmps48
  go_wp2_with (first | (go_at_call 77; refine (isDivided_any _ _).mono ?_; rintro e w1 ⟨rfl, rfl⟩) | (go_at_call 78; refine (areTerms_any _ _).mono ?_; rintro e w1 ⟨rfl, rfl⟩))
  go_loopw [0, 7] (fun i o wr => ∃ (x : Int) (l : List Int), i = .int .i64 x ∧ Hid (Dv x) ∧ Hid (x ∉ l) ∧ Hid (∀ y ∈ l, Dv y) ∧ lenOf o = l.length ∧ l.length ≤ M ∧ Rd wr w.heap.size o l ∧ Hid (goR M l x = R) ∧ Below w.heap.size w wr) (fun _ o _ => M - lenOf o)
  case atStart => exact ⟨n, [], rfl, Lib.hid HN.out, Lib.hid (by simp), Lib.hid (fun y hy => by simp at hy), rfl, by simp, Rd.nil _ _, Lib.hid HR0.out, Below.refl _ _⟩
  case round =>
    obtain ⟨x, l, rfl, HX, HXL, HAL, hlo, hlM, hr, HE, hbl⟩ := hrel
    have HR := Lib.hid hr
    have HB := Lib.hid hbl
    clear hr hbl
    obtain ⟨a6, c6, ho⟩ := HR.out.sl.len
    obtain ⟨K, hK⟩ : ∃ K, K = l.length := ⟨_, rfl⟩
    rw [← hK] at ho hlo hlM
    have HK := Lib.hid hK
    by_cases hlt : K < M
    · obtain ⟨x0, x1⟩ := HX.out
      have HPS := Lib.hid (fun w' => properSum_any x w' HX.out)
      have pb := prop_bd (n := x) (by omega) x1
      obtain ⟨l', hl'⟩ : ∃ l', l' = l ++ [x] := ⟨_, rfl⟩
      have HG := Lib.hid (show goR M l' (prop x) = R by rw [hl', ← goR_step (by omega) HX.out HXL.out]; exact HE.out)
      have HAL' := Lib.hid (show ∀ y ∈ l', Dv y from fun y hy => by
        rw [hl'] at hy
        rcases List.mem_append.1 hy with hy | hy
        · exact HAL.out y hy
        · rw [List.mem_singleton.1 hy]; exact HX.out)
      have HL' := Lib.hid (show l'.length = K + 1 by rw [hl', hK]; simp)
      have HRl := Lib.hid (show Rd wr w.heap.size (.slice a6 K c6) l by rw [← ho]; exact HR.out)
      subst ho
      obtain ⟨z, hz⟩ : ∃ z, z = prop x := ⟨_, rfl⟩
      rw [← hz] at HPS HG pb
      obtain ⟨z0, z1, _, _⟩ := pb
      have HLL := Lib.hid hl'
      clear hz hK hl' HR
      go_wp2_with (first
        | (at_builtin; refine wpList_appR rfl _ _ rfl w.heap.size w.heap.size _ _ l [x] rfl rfl (HRl.out.alloc _) (Rd.litB _ _ _ HB.out.size) (by have := HK.out; simp; omega) (by have := HB.out.size; simp; omega) ?_; intro v1 w2 hr1 hg1 hb2; rw [← HLL.out] at hr1; have HR2 := Lib.hid hr1; have HB2 := Lib.hid ((HB.out.alloc HB.out.size _).trans hb2); clear hr1 hg1 hb2)
        | (go_at_call 58; refine (HPS.out _).mono ?_; rintro e w3 ⟨rfl, hb3⟩; have HR3 := Lib.hid (HR2.out.keep hb3); have HB3 := Lib.hid (Below.step HB2.out HB2.out.size hb3); clear hb3))
      have HL1 := Lib.hid (rd_some HR3.out (by have := HL'.out; omega))
      obtain ⟨g, cap, hv1, hcap⟩ := HL1.out
      rw [HL'.out] at hv1 hcap
      have HR4 := Lib.hid (show Rd w3 w.heap.size (.slice (some ⟨g, 0, none⟩) (K + 1) cap) l' by rw [← hv1]; exact HR3.out)
      subst hv1
      clear HR3 HR2 HL1
      by_cases hin : z ∈ l'
      · have hp := plc_lt hin
        have HIX := Lib.hid (index_in HR4.out HL'.out.symm (by have := HL'.out; omega) hin)
        have HE2 := Lib.hid (show R = (l', z) by rw [← HG.out]; exact goR_in hin)
        obtain ⟨f, hf⟩ : ∃ f, f = plc z l' := ⟨_, rfl⟩
        have HDZ := Lib.hid (HAL'.out z hin)
        rw [← hf] at HIX hp
        rw [HL'.out] at hp
        have HF := Lib.hid hf
        have HIN := Lib.hid hin
        have hfc : f < cap := by omega
        have hfc2 : f ≤ cap := by omega
        have hfc3 : ¬ cap = f := by omega
        have hfK : f ≤ K + 1 := by omega
        clear hin hf
        go_wp2_with (go_at_call 53; refine HIX.out.mono ?_; rintro e w4 ⟨rfl, rfl⟩)
        go_region
        all_goals
          go_wp2
          go_ret3
          refine ⟨g, cap, K + 1, _, rfl, by rw [HE2.out, HL'.out], hcap, by rw [HE2.out]; exact HR4.out, .inl ⟨by rw [HE2.out]; exact ⟨HDZ.out, HIN.out⟩, ?_⟩, HB3.out.drew⟩
          rw [HE2.out]
          show _ = Value.iface _ (.slice (some ⟨g, plc z l', none⟩) (l'.length - plc z l') (cap - plc z l'))
          rw [← HF.out, HL'.out]
          rfl
      · have HIX := Lib.hid (index_out HR4.out HL'.out.symm (by have := HL'.out; omega) hin)
        have HOUT := Lib.hid hin
        clear hin
        by_cases hhi : 1000000000 < z
        · have HE2 := Lib.hid (show R = (l', z) by rw [← HG.out]; exact goR_out (fun c => by have := c.2; omega))
          have HE3 := Lib.hid (show endOf R = 4 by rw [HE2.out]; exact endOf_high (fun c => by have := c.2; omega) (by omega))
          go_wp2_with (go_at_call 53; refine HIX.out.mono ?_; rintro e w4 ⟨rfl, rfl⟩)
          go_ret3
          exact ⟨g, cap, K + 1, _, rfl, by rw [HE2.out, HL'.out], hcap, by rw [HE2.out]; exact HR4.out, .inr ⟨by rw [HE2.out]; exact fun c => HOUT.out c.2, by rw [HE3.out]; rfl⟩, HB3.out⟩
        · by_cases hz0 : z = 0
          · subst hz0
            have HE2 := Lib.hid (show R = (l', 0) by rw [← HG.out]; exact goR_out (fun c => by have := c.1; omega))
            have HE3 := Lib.hid (show endOf R = 0 by rw [HE2.out]; exact endOf_zero _)
            go_wp2_with (go_at_call 53; refine HIX.out.mono ?_; rintro e w4 ⟨rfl, rfl⟩)
            go_ret3
            exact ⟨g, cap, K + 1, _, rfl, by rw [HE2.out, HL'.out], hcap, by rw [HE2.out]; exact HR4.out, .inr ⟨by rw [HE2.out]; exact fun c => HOUT.out c.2, by rw [HE3.out]; rfl⟩, HB3.out⟩
          · have hzb : (z == 0) = false := beq_no hz0
            have HDZ := Lib.hid (show Dv z from ⟨by omega, by omega⟩)
            clear hz0
            go_wp2_with (go_at_call 53; refine HIX.out.mono ?_; rintro e w4 ⟨rfl, rfl⟩)
            go_roundw
            case rel => exact ⟨z, l', rfl, Lib.hid HDZ.out, Lib.hid HOUT.out, Lib.hid HAL'.out, HL'.out.symm, by have := HL'.out; omega, HR4.out, Lib.hid HG.out, HB3.out⟩
            case measure => simp [lenOf]; omega
    · obtain rfl : K = M := by omega
      have HE2 := Lib.hid (show R = (l, x) by rw [← HE.out]; exact goR_full (by omega))
      have HE3 := Lib.hid (show endOf R = 5 by rw [HE2.out]; exact endOf_more HX.out HXL.out)
      obtain ⟨g, cap, hv1, hcap⟩ := rd_some HR.out (by rw [← hK]; omega)
      rw [← hK] at hv1 hcap
      have HR4 := Lib.hid (show Rd wr w.heap.size (.slice (some ⟨g, 0, none⟩) K cap) l by rw [← hv1]; exact HR.out)
      rw [hv1] at ho
      simp only [Value.slice.injEq, true_and] at ho
      clear ho hlo HR
      subst hv1
      clear hK
      go_wp2
      go_ret3
      exact ⟨g, cap, K, _, rfl, by rw [HE2.out]; exact HK.out, hcap, by rw [HE2.out]; exact HR4.out, .inr ⟨by rw [HE2.out]; exact fun c => HXL.out c.2, by rw [HE3.out]; rfl⟩, HB.out⟩

theorem findRun_no (n m : Int) (w : World) (h : ¬ (Dv n ∧ Tm m)) :
    Calls Try.prog 48 #[.int .i64 n, .int .i64 m] w fun e w' => e = .returned (.tuple #[.slice none 0 0, .nilIface, .bool false]) ∧ w = w' := by
  by_cases hn : Dv n
  · have a1 : decide (Dv n) = true := decide_eq_true hn
    have a2 : decide (Tm m) = false := decide_eq_false (fun c => h ⟨hn, c⟩)
    clear h hn
    go_enter Try.func48, Try.ntmps48
    go_wp2_with (first | (go_at_call 77; refine (isDivided_any _ _).mono ?_; rintro e w1 ⟨rfl, rfl⟩) | (go_at_call 78; refine (areTerms_any _ _).mono ?_; rintro e w1 ⟨rfl, rfl⟩))
    go_ret3
    exact ⟨rfl, rfl⟩
  · have a1 : decide (Dv n) = false := decide_eq_false hn
    clear h hn
    go_enter Try.func48, Try.ntmps48
    go_wp2_with (first | (go_at_call 77; refine (isDivided_any _ _).mono ?_; rintro e w1 ⟨rfl, rfl⟩) | (go_at_call 78; refine (areTerms_any _ _).mono ?_; rintro e w1 ⟨rfl, rfl⟩))
    go_ret3
    exact ⟨rfl, rfl⟩

end Go.Proofs.Ytlpmfapjgmhbhaa
