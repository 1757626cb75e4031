/-
  Joint text of X9, X0: what each proves stands ahead of it.
-/
import Derived.Test.YtlbjeiaihenjkaaGreatDoorJ48
import Derived.Test.YtlbjeiaihenjkaaGreatDoorJ03
import Derived.Test.YtlbjeiaihenjkaaGreatDoorJ06
/- from X9: The program's failed lines of a script.  -/
namespace Go.Proofs.YtlbjeiaihenjkaaGreatDoor
open Go.RowKit
set_option linter.unusedVariables false
set_option linter.unusedSimpArgs false
set_option maxRecDepth 100000

/-- The variable of the errors' package that errors.As reads. -/
def ErrT (w : World) : Prop := w.cell? ⟨2, 0, none⟩ = some (.iface 142 (.agg #[.pointer (some ⟨9, 58, none⟩)]))
theorem ErrT.keep {w w' : World} {B : Nat} (h : ErrT w) (hb : Below B w w') (hB : 2 < B) : ErrT w' := (hb.cell (p := ⟨2, 0, none⟩) hB).trans h
theorem box_two (v : World) (a b : Value) (t : TypeId) : Box2 (v.alloc (.cells #[a, b] t)) v.heap.size := by
  refine ⟨fun j hj => ?_, fun j => by simp [go_sem]⟩
  match j, hj with
  | 0, _ => exact ⟨a, by simp [go_sem]⟩
  | 1, _ => exact ⟨b, by simp [go_sem]⟩
  | j + 2, h => omega

theorem impl_FailedLines_ok (S : Tx) (hok : scOk S) (pn pw : Addr) (w : World) (h : Env w pn pw) (hg : ErrT w) :
    Calls Tryz.prog 21 #[str S] w fun e w' => ∃ v, e = .returned (.tuple #[v, .bool true]) ∧ Rd w' w.heap.size v (flT 0 ((runS 7 10 (scL S)).map fun r => r.2.2.txt)) ∧ Below w.heap.size w w' := by
  obtain ⟨rs, hrs⟩ : ∃ rs, rs = runS 7 10 (scL S) := ⟨_, rfl⟩
  obtain ⟨K, hK⟩ : ∃ K, K = rs.length := ⟨_, rfl⟩
  obtain ⟨Ls, hL⟩ : ∃ Ls, Ls = rs.map fun r => r.2.2.txt := ⟨_, rfl⟩
  have HK := Lib.hid (runScript_ok S hok pn pw w h)
  have hk50 : K ≤ 50 := by rw [hK, hrs, runS_len, scL_len]; exact hok.2.2
  have HOK := Lib.hid (fun r (hr : r ∈ rs) => noW_fail (runS_ok (scL S) 7 10 (by unfold Num; omega) (by unfold Bas; omega) r (by rw [← hrs]; exact hr)))
  have HGS := Lib.hid (fun w' (hb : Below w.heap.size w w') => hg.keep hb (cell_lt hg))
  rw [← hrs, ← hK] at HK
  rw [← hrs, ← hL]
  have HLL := Lib.hid (show Ls.length = K by rw [hL, List.length_map, hK])
  have HLA := Lib.hid (fun (k : Nat) (r : Int × Int × Rp) (hr : rs[k]? = some r) => (show Ls[k]? = some r.2.2.txt by rw [hL, List.getElem?_map, hr]; rfl))
  have HKL := Lib.hid hK
  clear h hok hrs hK hL hg
  go_enter Tryz.func21, Tryz.ntmps21
  go_wp2_with fail
  refine HK.out.mono ?_
  rintro e w1 ⟨g, rfl, hO, hg, hb⟩
  have HB := Lib.hid hb
  have O1 := Lib.hid hO
  have hgz := hO.lt
  have HG1 := Lib.hid (HGS.out _ hb)
  clear hb hO hg
  go_wp2
  go_loopw [6, 19] (fun o i wr => ∃ k : Nat, k ≤ K ∧ i = .int .i64 (k : Int) ∧ Rd wr w1.heap.size o (flT 0 (Ls.take k)) ∧ Below w1.heap.size w1 wr) (fun _ i _ => K - (intOf i).toNat)
  case atStart => exact ⟨0, Nat.zero_le _, rfl, by simpa [flT] using Rd.nil _ _, Below.refl _ _⟩
  case round =>
    obtain ⟨k, hk, rfl, hr, hb⟩ := hrel
    have HR := Lib.hid hr
    have HBB := Lib.hid hb
    have OR := Lib.hid (O1.out.keep hb hgz)
    have HGR := Lib.hid (HG1.out.keep hb (cell_lt HG1.out))
    have hsz := hb.size
    clear hr hb
    by_cases hlt : k < K
    · obtain ⟨r, hr1⟩ : ∃ r, rs[k]? = some r := ⟨rs[k]'(by rw [← HKL.out]; exact hlt), List.getElem?_eq_getElem _⟩
      obtain ⟨c0, c1, c2, c3⟩ := OR.out.at' k r hr1
      have hsn : Ls.take (k + 1) = Ls.take k ++ [r.2.2.txt] := by rw [List.take_add_one, HLA.out k r hr1]; rfl
      have hlk : (Ls.take k).length = k := by rw [List.length_take, HLL.out]; omega
      have hnf : noW r.2.2.txt = failR r.2.2 := HOK.out r (List.mem_of_getElem? hr1)
      have HF := Lib.hid (show flT 0 (Ls.take (k + 1)) = flT 0 (Ls.take k) ++ (if failR r.2.2 then [(k : Int) + 1] else []) by rw [hsn, flT_snoc, hlk, Nat.zero_add, hnf])
      have HFL := Lib.hid (show (flT 0 (Ls.take k)).length ≤ 50 by have := flT_len (Ls.take k) 0; omega)
      have HLT := Lib.hid hlt
      have hk2 : k ≤ 50 := by omega
      have hgr : g < wr.heap.size := OR.out.lt
      obtain ⟨n', b', rp⟩ := r
      dsimp only at c0 c1 c2 c3 HF
      clear hr1 hsn hlk hnf
      cases rp with
      | say t =>
        have HF2 := Lib.hid (show flT 0 (Ls.take (k + 1)) = flT 0 (Ls.take k) by rw [HF.out]; simp [failR])
        have c3' : wr.cell? ⟨g, k * 4 + 3, none⟩ = some .nilIface := c3
        clear HF c3
        have HW := Lib.hid (two_below wr (.cells #[.int .i64 n', .int .i64 b', str (rpS (.say t)), .nilIface] 60) (.cells #[.int .i64 0, .nilIface] 70))
        go_wp2_with fail
        refine (as_nil _ _).mono ?_
        rintro e w4 ⟨rfl, rfl⟩
        go_wp2
        go_roundw
        case rel => exact ⟨k + 1, by have := HLT.out; omega, by go_num, by rw [HF2.out]; exact HR.out.keep HW.out, HBB.out.trans (HW.out.mono HBB.out.size)⟩
        case measure => simp [intOf]; omega
      | no =>
        have HF2 := Lib.hid (show flT 0 (Ls.take (k + 1)) = flT 0 (Ls.take k) ++ [(k : Int) + 1] by rw [HF.out]; simp [failR])
        have c3' : wr.cell? ⟨g, k * 4 + 3, none⟩ = some (.iface 70 (.agg #[.int .i64 ((k : Int) + 1), .iface 263 (.pointer (some pn))])) := c3
        clear HF c3
        obtain ⟨o1, ho1⟩ : ∃ o1, o1 = Obj.cells #[.int .i64 n', .int .i64 b', str (rpS .no), .iface 70 (.agg #[.int .i64 ((k : Int) + 1), .iface 263 (.pointer (some pn))])] 60 := ⟨_, rfl⟩
        obtain ⟨o2, ho2⟩ : ∃ o2, o2 = Obj.cells #[.int .i64 0, .nilIface] 70 := ⟨_, rfl⟩
        have HW := Lib.hid (two_below wr o1 o2)
        obtain ⟨V, hV⟩ : ∃ V, V = (wr.alloc o1).alloc o2 := ⟨_, rfl⟩
        have hVz : V.heap.size = wr.heap.size + 2 := by rw [hV]; simp
        have hbx : Box2 V (wr.heap.size + 1) := by
          have := box_two (wr.alloc o1) (.int .i64 0) .nilIface 70
          rw [hV, ho2]
          simpa using this
        rw [← hV] at HW
        have HX := Lib.hid (as_hit ((k : Int) + 1) pn (wr.heap.size + 1) V (HGR.out.keep HW.out (cell_lt HGR.out)) hbx (by omega))
        have HBX := Lib.hid hbx
        have HVZ := Lib.hid hVz
        rw [ho1, ho2] at hV
        clear hbx ho1 ho2 hVz
        go_wp2_with fail
        try simp only [World.alloc_size, World.size_alloc]
        rw [← hV]
        clear hV
        refine HX.out.mono ?_
        rintro e w4 ⟨rfl, W, hW, rfl⟩
        have hVz := HVZ.out
        have hBW := HBX.out.keep hW (by omega)
        have hsW := hW.size
        have HSB := Lib.hid (set2_below (HW.out.trans (hW.mono HW.out.size)) (show wr.heap.size ≤ wr.heap.size + 1 by omega) (.int .i64 ((k : Int) + 1)) (.iface 263 (.pointer (some pn))))
        have HRP := Lib.hid (HR.out.keep HSB.out)
        obtain ⟨p0, p1⟩ := set2_cells hBW (.int .i64 ((k : Int) + 1)) (.iface 263 (.pointer (some pn)))
        have HBP := Lib.hid (HBB.out.trans (HSB.out.mono HBB.out.size))
        obtain ⟨P, hP⟩ : ∃ P, P = set2 W (wr.heap.size + 1) (.int .i64 ((k : Int) + 1)) (.iface 263 (.pointer (some pn))) := ⟨_, rfl⟩
        rw [← hP] at p0 p1 HBP HRP ⊢
        clear HSB HW
        have hPz : w1.heap.size ≤ P.heap.size := HBP.out.size
        clear hP p1 hBW hsW hW hVz
        go_wp2_with (at_builtin; refine wpList_appR rfl _ _ rfl w1.heap.size w1.heap.size _ _ (flT 0 (Ls.take k)) [(k : Int) + 1] rfl rfl (HRP.out.alloc _) (Rd.litB _ _ _ HBP.out.size) (by have := HFL.out; simp; omega) (by simp; omega) ?_; intro v1 w2 hr1 hg1 hb2; have HR2 := Lib.hid hr1; have HB2 := Lib.hid ((HBP.out.alloc HBP.out.size _).trans hb2); clear hr1 hg1 hb2)
        go_roundw
        case rel => exact ⟨k + 1, by have := HLT.out; omega, by go_num, by rw [HF2.out]; exact HR2.out, HB2.out⟩
        case measure => simp [intOf]; omega
      | what =>
        have HF2 := Lib.hid (show flT 0 (Ls.take (k + 1)) = flT 0 (Ls.take k) ++ [(k : Int) + 1] by rw [HF.out]; simp [failR])
        have c3' : wr.cell? ⟨g, k * 4 + 3, none⟩ = some (.iface 70 (.agg #[.int .i64 ((k : Int) + 1), .iface 263 (.pointer (some pw))])) := c3
        clear HF c3
        obtain ⟨o1, ho1⟩ : ∃ o1, o1 = Obj.cells #[.int .i64 n', .int .i64 b', str (rpS .what), .iface 70 (.agg #[.int .i64 ((k : Int) + 1), .iface 263 (.pointer (some pw))])] 60 := ⟨_, rfl⟩
        obtain ⟨o2, ho2⟩ : ∃ o2, o2 = Obj.cells #[.int .i64 0, .nilIface] 70 := ⟨_, rfl⟩
        have HW := Lib.hid (two_below wr o1 o2)
        obtain ⟨V, hV⟩ : ∃ V, V = (wr.alloc o1).alloc o2 := ⟨_, rfl⟩
        have hVz : V.heap.size = wr.heap.size + 2 := by rw [hV]; simp
        have hbx : Box2 V (wr.heap.size + 1) := by
          have := box_two (wr.alloc o1) (.int .i64 0) .nilIface 70
          rw [hV, ho2]
          simpa using this
        rw [← hV] at HW
        have HX := Lib.hid (as_hit ((k : Int) + 1) pw (wr.heap.size + 1) V (HGR.out.keep HW.out (cell_lt HGR.out)) hbx (by omega))
        have HBX := Lib.hid hbx
        have HVZ := Lib.hid hVz
        rw [ho1, ho2] at hV
        clear hbx ho1 ho2 hVz
        go_wp2_with fail
        try simp only [World.alloc_size, World.size_alloc]
        rw [← hV]
        clear hV
        refine HX.out.mono ?_
        rintro e w4 ⟨rfl, W, hW, rfl⟩
        have hVz := HVZ.out
        have hBW := HBX.out.keep hW (by omega)
        have hsW := hW.size
        have HSB := Lib.hid (set2_below (HW.out.trans (hW.mono HW.out.size)) (show wr.heap.size ≤ wr.heap.size + 1 by omega) (.int .i64 ((k : Int) + 1)) (.iface 263 (.pointer (some pw))))
        have HRP := Lib.hid (HR.out.keep HSB.out)
        obtain ⟨p0, p1⟩ := set2_cells hBW (.int .i64 ((k : Int) + 1)) (.iface 263 (.pointer (some pw)))
        have HBP := Lib.hid (HBB.out.trans (HSB.out.mono HBB.out.size))
        obtain ⟨P, hP⟩ : ∃ P, P = set2 W (wr.heap.size + 1) (.int .i64 ((k : Int) + 1)) (.iface 263 (.pointer (some pw))) := ⟨_, rfl⟩
        rw [← hP] at p0 p1 HBP HRP ⊢
        clear HSB HW
        have hPz : w1.heap.size ≤ P.heap.size := HBP.out.size
        clear hP p1 hBW hsW hW hVz
        go_wp2_with (at_builtin; refine wpList_appR rfl _ _ rfl w1.heap.size w1.heap.size _ _ (flT 0 (Ls.take k)) [(k : Int) + 1] rfl rfl (HRP.out.alloc _) (Rd.litB _ _ _ HBP.out.size) (by have := HFL.out; simp; omega) (by simp; omega) ?_; intro v1 w2 hr1 hg1 hb2; have HR2 := Lib.hid hr1; have HB2 := Lib.hid ((HBP.out.alloc HBP.out.size _).trans hb2); clear hr1 hg1 hb2)
        go_roundw
        case rel => exact ⟨k + 1, by have := HLT.out; omega, by go_num, by rw [HF2.out]; exact HR2.out, HB2.out⟩
        case measure => simp [intOf]; omega
    · obtain rfl : k = K := by omega
      have hall : Ls.take k = Ls := List.take_of_length_le (by rw [HLL.out]; exact Nat.le_refl _)
      rw [hall] at HR
      go_wp2
      go_ret2
      exact ⟨_, rfl, HR.out.mono HB.out.size, HB.out.trans (HBB.out.mono HB.out.size)⟩

theorem impl_FailedLines (S : Tx) (pn pw : Addr) (w : World) (h : Env w pn pw) (hg : ErrT w) :
    Calls Tryz.prog 21 #[str S] w fun e w' => ∃ v, e = .returned (.tuple #[v, .bool (decide (scOk S))]) ∧ Rd w' w.heap.size v (flT 0 ((scR S).map fun r => r.2.2.txt)) ∧ Below w.heap.size w w' := by
  by_cases hok : scOk S
  · have e : scR S = runS 7 10 (scL S) := if_pos hok
    rw [e, decide_eq_true hok]
    exact impl_FailedLines_ok S hok pn pw w h hg
  · have e : scR S = [] := if_neg hok
    rw [e, decide_eq_false hok]
    refine (impl_FailedLines_bad S hok pn pw w h).mono ?_
    rintro e w' ⟨rfl, hb⟩
    exact ⟨_, rfl, Rd.nil _ _, hb⟩

end Go.Proofs.YtlbjeiaihenjkaaGreatDoor

/- from X0: The law of the failed lines.  -/
namespace Go.Proofs.YtlbjeiaihenjkaaGreatDoor
open Go.RowKit
set_option linter.unusedVariables false
set_option linter.unusedSimpArgs false
set_option maxRecDepth 100000

theorem law_FailedLines (S : Tx) (pn pw : Addr) (w : World) (h : Env w pn pw) (hg : ErrT w) : Calls Tryz.prog 6 #[str S] w fun e w' => e = .returned (.bool true) ∧ Below w.heap.size w w' := by
  have HI := Lib.hid (fun w' hw hg' => impl_FailedLines S pn pw w' hw hg')
  have HS := Lib.hid (fun w' => spec_FailedLines S w')
  have HE := Lib.hid (fun w' (hb : Below w.heap.size w w') => h.keep hb)
  have HG := Lib.hid (fun w' (hb : Below w.heap.size w w') => hg.keep hb (cell_lt hg))
  clear h hg
  obtain ⟨q, hq⟩ : ∃ q, q = decide (scOk S) := ⟨_, rfl⟩
  obtain ⟨L, hL⟩ : ∃ L, L = flT 0 ((scR S).map fun r => r.2.2.txt) := ⟨_, rfl⟩
  have hn : L.length ≤ 2000000 := by
    rw [hL]
    have h1 := flT_len ((scR S).map fun r => r.2.2.txt) 0
    rw [List.length_map] at h1
    have h2 : (scR S).length ≤ 50 := by
      unfold scR
      by_cases h : scOk S
      · rw [if_pos h, runS_len, scL_len]; exact h.2.2
      · rw [if_neg h]; simp
    omega
  rw [← hq, ← hL] at HI HS
  clear hq hL
  go_enter Tryz.func6, Tryz.ntmps6
  go_wp2_with fail
  · go_ret
    exact ⟨rfl, Below.refl _ _⟩
  refine (HS.out _).mono ?_
  rintro e w1 ⟨v0, rfl, hr, hb⟩
  have R0 := Lib.hid hr
  have B1 := Lib.hid hb
  clear hr hb
  go_wp2_with fail
  refine (HI.out _ (HE.out _ B1.out) (HG.out _ B1.out)).mono ?_
  rintro e w2 ⟨g0, rfl, hr, hb⟩
  have A0 := Lib.hid (Rd.apart (fun k hk => (R0.out.lt k hk).2) hr)
  have R02 := Lib.hid (R0.out.keep hb)
  have R2 := Lib.hid (hr.mono B1.out.size)
  have B2 := Lib.hid (B1.out.trans (hb.mono B1.out.size))
  clear hr hb
  go_wp2_with fail
  refine (eqIntS_any _ _ L L _ R2.out.sl R02.out.sl (by omega) (by omega)).mono ?_
  rw [decide_eq_true (rfl : L = L)]
  rintro e w3 ⟨rfl, hb⟩
  have R03 := Lib.hid (R02.out.keep hb)
  have R3 := Lib.hid (R2.out.keep hb)
  have B3 := Lib.hid (B2.out.trans (hb.mono B2.out.size))
  clear hb
  go_wp2_with fail
  refine (markIntS_any _ L _ _ _ R3.out B3.out.size (by omega) (by omega) (by omega)).mono ?_
  rintro e w4 ⟨rfl, hr, hg⟩
  have R04 := Lib.hid (R03.out.grown hg A0.out)
  have B4 := Lib.hid (B3.out.grown hg B3.out.size (fun k hk => (R3.out.lt k hk).1))
  have R4 := Lib.hid hr
  clear hr hg
  go_wp2_with fail
  refine (heldIntS_any _ _ _ _ _ R4.out (by omega) (by omega) (by omega)).mono ?_
  rintro e w5 ⟨rfl, rfl⟩
  go_wp2_with fail
  refine (HI.out _ (HE.out _ B4.out) (HG.out _ B4.out)).mono ?_
  rintro e w6 ⟨h0, rfl, hr, hb⟩
  have R06 := Lib.hid (R04.out.keep hb)
  have R6 := Lib.hid (R4.out.keep hb)
  have RH := Lib.hid hr
  have B6 := Lib.hid (B4.out.trans (hb.mono B4.out.size))
  clear hr hb
  go_wp2_with fail
  refine (eqIntS_any _ _ L L _ RH.out.sl R06.out.sl (by omega) (by omega)).mono ?_
  rw [decide_eq_true (rfl : L = L)]
  rintro e w7 ⟨rfl, hb⟩
  have R7 := Lib.hid (R6.out.keep hb)
  have B7 := Lib.hid (B6.out.trans (hb.mono B6.out.size))
  clear hb
  go_wp2_with fail
  refine (heldIntS_any _ _ _ _ _ R7.out (by omega) (by omega) (by omega)).mono ?_
  rintro e w8 ⟨rfl, rfl⟩
  go_wp2
  go_ret
  exact ⟨rfl, B7.out⟩

end Go.Proofs.YtlbjeiaihenjkaaGreatDoor
