/-
  Joint text of ZV ZW ZX (written by wip/tools/merge.py).
-/
import Derived.Test.YtgiabadkbfbilaaA2
import Derived.Test.YtgiabadkbfbilaaA3
import Derived.Test.YtgiabadkbfbilaaA5
import Derived.Deep.RegionLaw
import Derived.Laws.AppendOwn
import Derived.BigRegion
import Derived.Test.YtgiabadkbfbilaaK
/- from XZV -/
namespace Go.Proofs.Ytgiabadkbfbilaa
open Go.RowKit
set_option linter.unusedVariables false
set_option linter.unusedSimpArgs false
set_option maxRecDepth 100000

def ic (D : List Nat) : List Int := D.map fun (x : Nat) => (x : Int)
theorem ic_len (D : List Nat) : (ic D).length = D.length := by simp [ic]
theorem ic_at (D : List Nat) (j : Nat) (h : j < (ic D).length) : (ic D)[j] = ((D.getD j 0 : Nat) : Int) := by
  have h2 : j < D.length := by rw [ic_len] at h; exact h
  rw [getD_at h2]; simp [ic]
theorem ic_set (V : List Nat) (t q : Nat) : (ic V).set t (q : Int) = ic (V.set t q) := by simp [ic, List.map_set]
theorem ic_ins (D : List Nat) (t x : Nat) : (ic D).take t ++ [((x : Nat) : Int)] ++ (ic D).drop t = ic (D.take t ++ [x] ++ D.drop t) := by simp [ic, List.map_take, List.map_drop]

/-- The two lists of the model. -/
structure Pl (w : World) (B n gd cd gv cv : Nat) (D V : List Nat) : Prop where
  d : Rd w B (.slice (some ⟨gd, 0, none⟩) n cd) (ic D)
  v : Rd w B (.slice (some ⟨gv, 0, none⟩) n cv) (ic V)
  ne : gd ≠ gv

theorem Pl.dl {w : World} {B n gd cd gv cv : Nat} {D V : List Nat} (h : Pl w B n gd cd gv cv D V) : D.length = n ∧ V.length = n ∧ n ≤ cd ∧ n ≤ cv := by
  have e1 := h.d.at.1
  have e2 := h.d.at.2.2.2.1
  have e3 := h.v.at.1
  have e4 := h.v.at.2.2.2.1
  rw [ic_len] at e1 e2 e3 e4
  exact ⟨e1.symm, e3.symm, by omega, by omega⟩
theorem Pl.dc {w : World} {B n gd cd gv cv : Nat} {D V : List Nat} (h : Pl w B n gd cd gv cv D V) (j : Nat) (hj : j < n) : w.cell? ⟨gd, j, none⟩ = some (.int .i64 ((D.getD j 0 : Nat) : Int)) := by
  have hl := h.dl.1
  rw [h.d.at.2.2.2.2.1 j (by rw [ic_len]; omega), ic_at]
theorem Pl.vc {w : World} {B n gd cd gv cv : Nat} {D V : List Nat} (h : Pl w B n gd cd gv cv D V) (j : Nat) (hj : j < n) : w.cell? ⟨gv, j, none⟩ = some (.int .i64 ((V.getD j 0 : Nat) : Int)) := by
  have hl := h.dl.2.1
  rw [h.v.at.2.2.2.2.1 j (by rw [ic_len]; omega), ic_at]
theorem Pl.vf {w : World} {B n gd cd gv cv : Nat} {D V : List Nat} (h : Pl w B n gd cd gv cv D V) (j : Nat) : w.frozen? ⟨gv, j, none⟩ = false := h.v.at.2.2.2.2.2 j
theorem Pl.drew {w : World} {B n gd cd gv cv : Nat} {D V : List Nat} (h : Pl w B n gd cd gv cv D V) : Pl w.drew B n gd cd gv cv D V := ⟨h.d.drew, h.v.drew, h.ne⟩
theorem Pl.drewN {w : World} {B n gd cd gv cv : Nat} {D V : List Nat} (h : Pl w B n gd cd gv cv D V) (q : Nat) : Pl (w.drewN q) B n gd cd gv cv D V := ⟨h.d.drewN q, h.v.drewN q, h.ne⟩
theorem Pl.set {w : World} {B n gd cd gv cv : Nat} {D V : List Nat} (h : Pl w B n gd cd gv cv D V) (t q : Nat) : Pl (w.setCell ⟨gv, t, none⟩ (.int .i64 (q : Int))) B n gd cd gv cv D (V.set t q) := by
  have hs := h.v.set t (q : Int)
  refine ⟨h.d.grown hs.2 (.inr ?_), by have := hs.1; rwa [ic_set] at this, h.ne⟩
  intro e
  exact h.ne (by simpa [Value.ownBlock] using e)
theorem Pl.set_below {w : World} {B n gd cd gv cv : Nat} {D V : List Nat} (h : Pl w B n gd cd gv cv D V) (hB : B ≤ w.heap.size) (t q : Nat) : Below B w (w.setCell ⟨gv, t, none⟩ (.int .i64 (q : Int))) :=
  grown_below (h.v.set t (q : Int)).2 hB h.v.at.2.1

theorem SrcV.keep {w w' : World} {u : Value} {ys : List Int} (h : SrcV w u ys) (hb : Below w.heap.size w w') : SrcV w' u ys := by
  rcases h with h | ⟨ad, c, h1, h2⟩
  · exact .inl h
  · exact .inr ⟨ad, c, h1, fun j hj => Below.keeps_cell hb (h2 j hj)⟩
theorem SrcV.drew {w : World} {u : Value} {ys : List Int} (h : SrcV w u ys) : SrcV w.drew u ys := h
theorem SrcV.alloc {w : World} {u : Value} {ys : List Int} (h : SrcV w u ys) (o : Obj) : SrcV (w.alloc o) u ys := h.keep (al_below w o)
theorem srcV_lit (w : World) (q : Int) : SrcV (w.alloc (.cells #[.int .i64 q] 3)) (.slice (some ⟨w.heap.size, 0, none⟩) 1 1) [q] := by
  have h := Rd.lit w q
  refine .inr ⟨_, _, rfl, fun j hj => ?_⟩
  rw [addr_addV, Nat.zero_add]
  exact h.at.2.2.2.2.1 j hj

theorem srcV_one {w : World} {g : Nat} {q : Int} (h : w.cell? ⟨g, 0, none⟩ = some (.int .i64 q)) : SrcV w (.slice (some ⟨g, 0, none⟩) 1 1) [q] := by
  refine .inr ⟨_, _, rfl, fun j hj => ?_⟩
  rw [addr_addV, Nat.zero_add]
  have : j = 0 := by simp at hj; omega
  subst this
  exact h

theorem ownV_any (v : Value) (xs : List Int) (w : World) (h : SrcV w v xs) (hl : xs.length ≤ 2000000) :
    Calls Try.prog 138 #[v] w fun e w' => ∃ u, e = .returned u ∧ Rd w' w.heap.size u xs ∧ Below w.heap.size w w' := by
  have H := Lib.hid h
  clear h
  go_enter Try.func138, Try.ntmps138
  go_wp2_with (at_builtin; refine wpList_appV rfl (.tmp 3) (.tmp 4) rfl w.heap.size _ _ [] xs rfl rfl (rd_emptyV w) (H.out.keep (al_below w _)) (by simp; omega) (by simp) ?_; intro v1 w1 hr1 hg1 hb1; have R1 := Lib.hid hr1; have B1 := Lib.hid ((al_below w (.cells #[] 3)).trans hb1); clear hr1 hg1 hb1)
  go_ret
  exact ⟨_, rfl, by have := R1.out; rwa [List.nil_append] at this, B1.out⟩

/-- An append at a step of a region that draws its order. -/
theorem step_appV {w : World} {ops : Array Oper} {o : Oper} {a : Act} {K : Act → World → Prop} {Q : Exit → Act → World → Prop} {E : Prop} (hgd : o.guard = none) (s x : Operand)
    (ho : o.op = .call { callee := .builtin .append, args := #[s, x], argTypes := #[24, 24] })
    (B : Nat) (v u : Value) (xs ys : List Int) (hs : a.eval s = v) (hx : a.eval x = u) (hv : Rd w B v xs) (hu : SrcV w u ys) (hy : 1 ≤ ys.length ∨ ∃ ad m c, u = .slice (some ad) m c)
    (hlen : xs.length + ys.length ≤ 17179869184) (hB : B ≤ w.heap.size)
    (h : ∀ v' w', Rd w' B v' (xs ++ ys) → w.grownBy w' v.ownBlock → Below B w w' → K (a.put o.dst v') w') :
    if Region.wanted o (yielded ops a.tmps) = true then Oper.wp Try.prog o a w K Q else E := by
  have hw : Region.wanted o (yielded ops a.tmps) = true := by simp [Region.wanted, hgd]
  rw [if_pos hw]
  obtain ⟨i0, hi, hz0, hz1, hz2⟩ := info_parts info3
  obtain ⟨ad, c, hu1, hc⟩ : ∃ ad c, u = .slice (some ad) ys.length c ∧ ∀ j (h : j < ys.length), w.cell? (ad.add j) = some (.int .i64 ys[j]) := by
    rcases hu with ⟨h1, h2⟩ | h
    · exfalso
      rcases hy with hy | ⟨ad, m, c, h3⟩
      · rw [h2] at hy; simp at hy
      · rw [h1] at h3; simp at h3
    · exact h
  rw [hu1] at hx
  obtain ⟨v', w', hr, h2, h3, _⟩ := run_append_own (P := Try.prog) w B 24 o.type 3 i0 (.int .i64 0) 1 8 Try.underlying24 hi hz0 hz1 hz2 rfl (by decide) v xs.length _ hv ad ys.length c (ys.map (Value.int .i64)) (by simp) (fun j q hj => by
    have hj' : j < ys.length := by have := (List.getElem?_eq_some_iff.1 hj).1; simpa using this
    rw [hc j hj', ← hj]
    simp [hj']) (ints_oneCell _ _) (by unfold maxLen; omega) (by omega) hB
  unfold Oper.wp execOp
  simp only [ho, resolve, invoke, builtin, Sem.run_bind, Sem.run_pure, Result.andThen_ok, List.map_toArray, List.map_cons, List.map_nil, hs, hx, hr]
  refine h v' w' ?_ h3 ((Below.refl _ _).grown h3 hB (fun k hk => (hv.lt k hk).1))
  unfold Rd
  rw [List.length_append, List.map_append]
  exact h2

theorem rd_shape {w : World} {B n : Nat} {v : Value} {xs : List Int} (h : Rd w B v xs) (hn : xs.length = n + 1) : ∃ g c, v = .slice (some ⟨g, 0, none⟩) (n + 1) c ∧ B ≤ g ∧ g < w.heap.size := by
  rcases h.cases with ⟨_, h2⟩ | ⟨g, c, h1, h2, h3, _⟩
  · rw [h2] at hn; simp at hn
  · exact ⟨g, c, by rw [h1, hn], h2, h3⟩

theorem Pl.made {B : Nat} {wr w3 w6 : World} {n t X v g3 c3 g6 c6 : Nat} {D V : List Nat} {ds vs : List Int} (hB : B ≤ wr.heap.size) (hds : ds = ic D) (hvs : vs = ic V)
    (r3 : Rd w3 wr.heap.size (.slice (some ⟨g3, 0, none⟩) (n + 1) c3) (ds.take t ++ [(X : Int)] ++ ds.drop t)) (b3 : Below wr.heap.size wr w3)
    (r6 : Rd w6 w3.heap.size (.slice (some ⟨g6, 0, none⟩) (n + 1) c6) (vs.take t ++ [(v : Int)] ++ vs.drop t)) (b6 : Below w3.heap.size w3 w6) (h3 : g3 < w3.heap.size) (h6 : w3.heap.size ≤ g6) :
    Pl w6 B (n + 1) g3 c3 g6 c6 (D.take t ++ [X] ++ D.drop t) (V.take t ++ [v] ++ V.drop t) := by
  subst hds hvs
  rw [ic_ins] at r3 r6
  exact ⟨(r3.keep b6).mono hB, r6.mono (Nat.le_trans hB b3.size), by omega⟩

theorem Pl.start (w : World) : Pl ((w.alloc (.cells #[.int .i64 1] 3)).alloc (.cells #[.int .i64 1] 3)) w.heap.size 1 w.heap.size 1 (w.heap.size + 1) 1 [1] [1] := by
  have h2 := Rd.litB (w.alloc (.cells #[.int .i64 1] 3)) w.heap.size 1 (by simp)
  have hs : (w.alloc (.cells #[.int .i64 1] 3)).heap.size = w.heap.size + 1 := by simp
  rw [hs] at h2
  exact ⟨(Rd.lit w 1).alloc _, h2, by omega⟩

end Go.Proofs.Ytgiabadkbfbilaa

/- from XZW -/
namespace Go.Proofs.Ytgiabadkbfbilaa
open Go.RowKit
set_option linter.unusedVariables false
set_option linter.unusedSimpArgs false
set_option maxRecDepth 100000

set_option maxHeartbeats 16000000 in
theorem prLists_any (b p : Nat) (w : World) (hb : 2 ≤ b) (hb' : b ≤ 16) (hp : 1 ≤ p) (hp' : p ≤ 1000000000000) :
    Calls Try.prog 110 #[.int .i64 (p : Int), .int .i64 (b : Int)] w fun e w' => e = .returned (.int .i64 ((ct b p : Nat) : Int)) ∧ Below w.heap.size w w' := by
  obtain ⟨CP, hCP⟩ : ∃ CP : Int, CP = ((ct b p : Nat) : Int) := ⟨_, rfl⟩
  have HCP := Lib.hid hCP
  rw [← hCP]
  clear hCP
  have HP0 := Lib.hid (Pl.start w)
  have HBL0 := Lib.hid (show Below w.heap.size w ((w.alloc (.cells #[.int .i64 1] 3)).alloc (.cells #[.int .i64 1] 3)) from bel_alloc6 (al_below w _) _)
  go_enter Try.func110, Try.ntmps110
  go_wp2
  go_loopw [5, 6, 7] (fun x y i wr => ∃ (k n gd cd gv cv : Nat) (D V : List Nat), x = .slice (some ⟨gd, 0, none⟩) n cd ∧ y = .slice (some ⟨gv, 0, none⟩) n cv ∧ i = .int .i64 (k : Int) ∧ k ≤ n ∧ n ≤ 2000000 ∧ Hid (Pl wr w.heap.size n gd cd gv cv D V) ∧ Hid (Ot b p k n D V) ∧ Hid (Below w.heap.size w wr)) (fun _ _ i _ => 2000001 - (intOf i).toNat)
  case atStart => exact ⟨0, 1, _, _, _, _, [1], [1], rfl, rfl, rfl, by omega, by omega, Lib.hid (by simpa using HP0.out), Lib.hid (Ot.start hp), Lib.hid (by simpa using HBL0.out)⟩
  case round =>
    obtain ⟨k, n, gd, cd, gv, cv, D, V, rfl, rfl, rfl, hkn, hn2, HP, HO, HBL⟩ := hrel
    by_cases hlt : k < n
    · obtain ⟨c, hc⟩ : ∃ c, c = D.getD k 0 := ⟨_, rfl⟩
      have HI := Lib.hid (show In b p c k 2 n D V by rcases HO.out with h | h; (rw [hc]; exact h.2); (exfalso; omega))
      have hc1 : 1 ≤ c := by rw [hc]; exact (HI.out.d_bd hp k hlt).1
      have hcp : c ≤ p := by rw [hc]; exact (HI.out.d_bd hp k hlt).2
      clear hc HO
      go_wp2
      go_loopw [5, 6, 8] (fun x y i wd => ∃ (d n gd cd gv cv : Nat) (D V : List Nat), x = .slice (some ⟨gd, 0, none⟩) n cd ∧ y = .slice (some ⟨gv, 0, none⟩) n cv ∧ i = .int .i64 (d : Int) ∧ 2 ≤ d ∧ d ≤ b ∧ k < n ∧ n ≤ 2000000 ∧ Hid (Pl wd w.heap.size n gd cd gv cv D V) ∧ Hid (In b p c k d n D V) ∧ Hid (Below w.heap.size w wd)) (fun _ _ i _ => 16 - (intOf i).toNat)
      case atStart => exact ⟨2, n, gd, cd, gv, cv, D, V, rfl, rfl, rfl, by omega, hb, hlt, hn2, HP, HI, HBL⟩
      case round =>
        clear HP HI HBL
        clear hkn hn2 hlt
        obtain ⟨d, n, gd, cd, gv, cv, D, V, rfl, rfl, rfl, hd2, hdb0, hlt, hn2, HP, HI, HBL⟩ := hrel
        have hck := HP.out.dc k hlt
        rw [HI.out.at'] at hck
        have hncd := HP.out.dl.2.2.1
        have hncv := HP.out.dl.2.2.2
        by_cases hdb : d < b
        · obtain ⟨X, hX⟩ : ∃ X, X = c * d := ⟨_, rfl⟩
          have hXi : (c : Int) * (d : Int) = (X : Int) := by rw [hX]; simp
          have hX2 : 2 ≤ X := by rw [hX]; have := Nat.mul_le_mul hc1 hd2; omega
          have hXb : X ≤ 16000000000000 := by rw [hX]; have := Nat.mul_le_mul (show c ≤ 1000000000000 by omega) (show d ≤ 16 by omega); omega
          have HX := Lib.hid hX
          clear hX
          obtain ⟨r, hr⟩ : ∃ r : Nat, r = p % X := ⟨_, rfl⟩
          have hri : (p : Int) % (X : Int) = (r : Int) := by rw [hr]; exact (Int.natCast_emod p X).symm
          have HR := Lib.hid hr
          clear hr
          by_cases hr0 : r = 0
          · subst hr0
            have HLOW := Lib.hid (show ∀ j, j < k + 1 → D.getD j 0 < X by rw [HX.out]; exact HI.out.low hd2)
            go_wp2
            go_loop [10] (fun a => ∃ t : Nat, a = .int .i64 (t : Int) ∧ k + 1 ≤ t ∧ t ≤ n ∧ Hid (∀ j, j < t → D.getD j 0 < X)) (fun a => n - (intOf a).toNat)
            case atStart => exact ⟨k + 1, by go_num, by omega, by omega, HLOW⟩
            case round =>
              obtain ⟨t, rfl, hkt, htn0, HT⟩ := hrel
              by_cases htn : t < n
              · obtain ⟨y, hy⟩ : ∃ y, y = D.getD t 0 := ⟨_, rfl⟩
                have hct := HP.out.dc t htn
                rw [← hy] at hct
                have HY := Lib.hid hy
                clear hy
                by_cases hyX : y < X
                · go_wp2
                  go_round
                  case rel => exact ⟨t + 1, by go_num, by omega, by omega, Lib.hid (fun j hj => by by_cases e : j = t; (rw [e, ← HY.out]; exact hyX); exact HT.out j (by omega))⟩
                  case measure => (simp [intOf]; omega)
                · by_cases hyE : y = X
                  · subst hyE
                    have HI2 := Lib.hid (HI.out.hit hd2 hdb htn (by rw [← HY.out]; exact HX.out))
                    have hTb := HI2.out.v_bd hp hp' hb' t htn
                    have hvk := HP.out.vc k hlt
                    have hvt := HP.out.vc t htn
                    have hft := HP.out.vf t
                    have htl : t < V.length := by have := HP.out.dl.2.1; omega
                    obtain ⟨u, hu⟩ : ∃ u, u = V.getD t 0 := ⟨_, rfl⟩
                    obtain ⟨v, hv⟩ : ∃ v, v = V.getD k 0 := ⟨_, rfl⟩
                    rw [← hv] at hvk HI2
                    rw [← hu] at hvt HI2
                    rw [← hu, ← hv, getD_at (by simpa using htl), List.getElem_set_self] at hTb
                    clear hu hv
                    obtain ⟨T, hT⟩ : ∃ T, T = u + v := ⟨_, rfl⟩
                    have hTi : (u : Int) + (v : Int) = (T : Int) := by omega
                    rw [← hT] at hTb HI2
                    have hTb2 : (T : Int) ≤ 9223372036854775807 := by omega
                    clear hT hTb
                    go_wp2
                    go_region
                    go_wp2
                    go_roundw
                    case rel => exact ⟨d + 1, n, gd, cd, gv, cv, D, V.set t T, rfl, rfl, by go_num, by omega, by omega, hlt, hn2, Lib.hid (HP.out.drew.set t T), HI2, Lib.hid (HBL.out.drew.trans (HP.out.drew.set_below HBL.out.size t T))⟩
                    case measure => (simp [intOf]; omega)
                  · have hbe : ((y : Int) == (X : Int)) = false := beq_no (by omega)
                    have hcdt : ¬ cd = t := by omega
                    have hcvt : ¬ cv = t := by omega
                    have hcdl : t < cd := by omega
                    have hcvl : t < cv := by omega
                    have hcde : t ≤ cd := by omega
                    have hcve : t ≤ cv := by omega
                    have HI2 := Lib.hid (HI.out.ins hd2 hdb (show p % (c * d) = 0 by rw [← HX.out, ← HR.out]) hkt (show t ≤ n by omega) (by rw [← HX.out]; exact HT.out) (fun _ => by rw [← HY.out, ← HX.out]; omega))
                    have HIL := Lib.hid HI2.out.len
                    have hn3 := HI2.out.few hp hp'
                    have hvk := HP.out.vc k hlt
                    obtain ⟨v, hv⟩ : ∃ v, v = V.getD k 0 := ⟨_, rfl⟩
                    rw [← hv] at hvk
                    rw [← HX.out, ← hv] at HI2
                    clear hv
                    have hDL : (ic D).length = n := by rw [ic_len]; exact HP.out.dl.1
                    have hVL : (ic V).length = n := by rw [ic_len]; exact HP.out.dl.2.1
                    have HD := Lib.hid (show ∀ (W : World) (cc : Nat), Below wr.heap.size wr W → SrcV W (.slice (some ⟨gd, 0, none⟩) t cc) ((ic D).take t) from fun W cc hbw => (srcV_take HP.out.d t cc (by omega)).keep hbw)
                    have HDR := Lib.hid (show ∀ (W : World) (cc o m : Nat), Below wr.heap.size wr W → (t < n → o = t) → m = n - t → SrcV W (.slice (some ⟨gd, o, none⟩) m cc) ((ic D).drop t) from fun W cc o m hbw ho hm => (srcV_drop HP.out.d t cc o m (by omega) (fun h => ho (by omega)) (by omega)).keep hbw)
                    have HV := Lib.hid (show ∀ (W : World) (cc : Nat), Below wr.heap.size wr W → SrcV W (.slice (some ⟨gv, 0, none⟩) t cc) ((ic V).take t) from fun W cc hbw => (srcV_take HP.out.v t cc (by omega)).keep hbw)
                    have HVR := Lib.hid (show ∀ (W : World) (cc o m : Nat), Below wr.heap.size wr W → (t < n → o = t) → m = n - t → SrcV W (.slice (some ⟨gv, o, none⟩) m cc) ((ic V).drop t) from fun W cc o m hbw ho hm => (srcV_drop HP.out.v t cc o m (by omega) (fun h => ho (by omega)) (by omega)).keep hbw)
                    have HVK := Lib.hid (show ∀ W : World, Below wr.heap.size wr W → W.cell? ⟨gv, k, none⟩ = some (.int .i64 (v : Int)) from fun W hbw => Below.keeps_cell hbw hvk)
                    obtain ⟨ds, hds⟩ : ∃ ds, ds = ic D := ⟨_, rfl⟩
                    obtain ⟨vs, hvs⟩ : ∃ vs, vs = ic V := ⟨_, rfl⟩
                    have HDS := Lib.hid hds
                    have HVS := Lib.hid hvs
                    rw [← hds] at hDL HD HDR
                    rw [← hvs] at hVL HV HVR
                    clear hds hvs
                    have HLD := Lib.hid hDL
                    have HLV := Lib.hid hVL
                    have hDLg : ds.length ≤ 2000000 := by omega
                    have hVLg : vs.length ≤ 2000000 := by omega
                    clear hDL hVL hvk hck
                    go_wp2
                    go_region_held3 (fun _ => True) (trivial) (first
                          | (go_at_call 138; (refine (ownV_any _ ((ds).take t) _ (HD.out _ _ ?bel) ?len).mono ?_; (case bel => (repeat (first | (with_reducible exact Below.refl _ _) | (with_reducible refine Below.drew ?_) | (with_reducible refine bel_alloc6 ?_ _)))); (case len => (rw [List.length_take]; omega)); rintro e w1 ⟨v1, rfl, hr1, hb1⟩; have K1 := Lib.hid hb1; have R1 := Lib.hid (show Rd w1 wr.heap.size v1 ((ds).take t) from hr1.mono (by first | exact Nat.le_refl _ | (simp; done) | (simp; omega))); have LB1 := Lib.hid (show Below wr.heap.size wr w1 from bel_step6 (by (repeat (first | (with_reducible exact Below.refl _ _) | (with_reducible refine Below.drew ?_) | (with_reducible refine bel_alloc6 ?_ _)))) hb1); clear hr1 hb1))
                          | (refine step_appV rfl (.tmp 79) (.tmp 82) rfl wr.heap.size v2 (.slice (some ⟨gd, _, none⟩) _ _) ((ds).take t ++ [(X : Int)]) ((ds).drop t) rfl rfl R2.out (HDR.out _ _ _ _ LB2.out (by intro hh; first | rfl | omega) (by omega)) (.inr ⟨_, _, _, rfl⟩) ?len LB2.out.size ?_; (case len => (rw [List.length_append, List.length_take, List.length_drop, List.length_singleton]; omega)); intro v3 w3 hr3 hg3 hb3; have R3 := Lib.hid hr3; have LB3 := Lib.hid (LB2.out.trans hb3); clear hr3 hg3 hb3)
                          | (refine step_appV rfl (.tmp 76) (.tmp 78) rfl wr.heap.size v1 (.slice (some ⟨w1.heap.size, 0, none⟩) 1 1) ((ds).take t) [(X : Int)] rfl rfl ?rv (srcV_one (by simp [go_sem])) (.inl (Nat.le_refl 1)) ?len ?sz ?_; (case rv => (repeat (first | (with_reducible exact R1.out) | (with_reducible refine Rd.drew ?_) | (with_reducible refine Rd.alloc ?_ _)))); (case len => (rw [List.length_take, List.length_singleton]; omega)); (case sz => (refine (show Below wr.heap.size wr _ from ?_).size; (repeat (first | (with_reducible exact LB1.out) | (with_reducible exact Below.refl _ _) | (with_reducible refine Below.drew ?_) | (with_reducible refine bel_alloc6 ?_ _))))); intro v2 w2 hr2 hg2 hb2; have R2 := Lib.hid hr2; have LB2 := Lib.hid (show Below wr.heap.size wr w2 from Below.trans (by (repeat (first | (with_reducible exact LB1.out) | (with_reducible exact Below.refl _ _) | (with_reducible refine Below.drew ?_) | (with_reducible refine bel_alloc6 ?_ _)))) hb2); clear hr2 hg2 hb2)
                          | (refine step_appV rfl (.tmp 76) (.tmp 78) rfl wr.heap.size v1 (.slice (some ⟨wr.heap.size, 0, none⟩) 1 1) ((ds).take t) [(X : Int)] rfl rfl ?rv (srcV_one (Below.keeps_cell K1.out (by simp [go_sem]))) (.inl (Nat.le_refl 1)) ?len ?sz ?_; (case rv => (repeat (first | (with_reducible exact R1.out) | (with_reducible refine Rd.drew ?_) | (with_reducible refine Rd.alloc ?_ _)))); (case len => (rw [List.length_take, List.length_singleton]; omega)); (case sz => (refine (show Below wr.heap.size wr _ from ?_).size; (repeat (first | (with_reducible exact LB1.out) | (with_reducible exact Below.refl _ _) | (with_reducible refine Below.drew ?_) | (with_reducible refine bel_alloc6 ?_ _))))); intro v2 w2 hr2 hg2 hb2; have R2 := Lib.hid hr2; have LB2 := Lib.hid (show Below wr.heap.size wr w2 from Below.trans (by (repeat (first | (with_reducible exact LB1.out) | (with_reducible exact Below.refl _ _) | (with_reducible refine Below.drew ?_) | (with_reducible refine bel_alloc6 ?_ _)))) hb2); clear hr2 hg2 hb2))
                    all_goals
                      obtain ⟨g3, c3, hv3, hg3, hg3b⟩ := rd_shape (n := n) R3.out (by have h := HLD.out; rw [List.length_append, List.length_append, List.length_take, List.length_drop, List.length_singleton]; omega)
                      subst hv3
                      have HV2 := Lib.hid (show ∀ (W : World) (cc : Nat), Below w3.heap.size w3 W → SrcV W (.slice (some ⟨gv, 0, none⟩) t cc) (vs.take t) from fun W cc hbw => HV.out W cc (bel_step6 LB3.out hbw))
                      have HV2R := Lib.hid (show ∀ (W : World) (cc o m : Nat), Below w3.heap.size w3 W → (t < n → o = t) → m = n - t → SrcV W (.slice (some ⟨gv, o, none⟩) m cc) (vs.drop t) from fun W cc o m hbw => HVR.out W cc o m (bel_step6 LB3.out hbw))
                      have HVK2 := Lib.hid (show ∀ W : World, Below w3.heap.size w3 W → W.cell? ⟨gv, k, none⟩ = some (.int .i64 (v : Int)) from fun W hbw => HVK.out W (bel_step6 LB3.out hbw))
                      clear R1 R2 K1 LB1 LB2 HD HDR HV HVR HVK
                      have hvk := HVK2.out w3 (Below.refl _ _)
                      go_wp2
                      go_region_held3 (fun w' => w'.cell? ⟨gv, k, none⟩ = some (.int .i64 (v : Int))) (first | (refine HVK2.out _ ?_; (repeat (first | (with_reducible exact LB6.out) | (with_reducible exact LB5.out) | (with_reducible exact LB4.out) | (with_reducible exact Below.refl _ _) | (with_reducible refine Below.drew ?_) | (with_reducible refine bel_alloc6 ?_ _))))) (first
                          | (go_at_call 138; (refine (ownV_any _ ((vs).take t) _ (HV2.out _ _ ?bel) ?len).mono ?_; (case bel => (repeat (first | (with_reducible exact Below.refl _ _) | (with_reducible refine Below.drew ?_) | (with_reducible refine bel_alloc6 ?_ _)))); (case len => (rw [List.length_take]; omega)); rintro e w4 ⟨v4, rfl, hr4, hb4⟩; have K4 := Lib.hid hb4; have R4 := Lib.hid (show Rd w4 w3.heap.size v4 ((vs).take t) from hr4.mono (by first | exact Nat.le_refl _ | (simp; done) | (simp; omega))); have LB4 := Lib.hid (show Below w3.heap.size w3 w4 from bel_step6 (by (repeat (first | (with_reducible exact Below.refl _ _) | (with_reducible refine Below.drew ?_) | (with_reducible refine bel_alloc6 ?_ _)))) hb4); clear hr4 hb4))
                          | (refine step_appV rfl (.tmp 93) (.tmp 96) rfl w3.heap.size v5 (.slice (some ⟨gv, _, none⟩) _ _) ((vs).take t ++ [(v : Int)]) ((vs).drop t) rfl rfl R5.out (HV2R.out _ _ _ _ LB5.out (by intro hh; first | rfl | omega) (by omega)) (.inr ⟨_, _, _, rfl⟩) ?len LB5.out.size ?_; (case len => (rw [List.length_append, List.length_take, List.length_drop, List.length_singleton]; omega)); intro v6 w6 hr6 hg6 hb6; have R6 := Lib.hid hr6; have LB6 := Lib.hid (LB5.out.trans hb6); clear hr6 hg6 hb6)
                          | (refine step_appV rfl (.tmp 87) (.tmp 92) rfl w3.heap.size v4 (.slice (some ⟨w4.heap.size, 0, none⟩) 1 1) ((vs).take t) [(v : Int)] rfl rfl ?rv (srcV_one (by simp [go_sem])) (.inl (Nat.le_refl 1)) ?len ?sz ?_; (case rv => (repeat (first | (with_reducible exact R4.out) | (with_reducible refine Rd.drew ?_) | (with_reducible refine Rd.alloc ?_ _)))); (case len => (rw [List.length_take, List.length_singleton]; omega)); (case sz => (refine (show Below w3.heap.size w3 _ from ?_).size; (repeat (first | (with_reducible exact LB4.out) | (with_reducible exact Below.refl _ _) | (with_reducible refine Below.drew ?_) | (with_reducible refine bel_alloc6 ?_ _))))); intro v5 w5 hr5 hg5 hb5; have R5 := Lib.hid hr5; have LB5 := Lib.hid (show Below w3.heap.size w3 w5 from Below.trans (by (repeat (first | (with_reducible exact LB4.out) | (with_reducible exact Below.refl _ _) | (with_reducible refine Below.drew ?_) | (with_reducible refine bel_alloc6 ?_ _)))) hb5); clear hr5 hg5 hb5)
                          | (refine step_appV rfl (.tmp 87) (.tmp 92) rfl w3.heap.size v4 (.slice (some ⟨w3.heap.size, 0, none⟩) 1 1) ((vs).take t) [(v : Int)] rfl rfl ?rv (srcV_one (Below.keeps_cell K4.out (by simp [go_sem]))) (.inl (Nat.le_refl 1)) ?len ?sz ?_; (case rv => (repeat (first | (with_reducible exact R4.out) | (with_reducible refine Rd.drew ?_) | (with_reducible refine Rd.alloc ?_ _)))); (case len => (rw [List.length_take, List.length_singleton]; omega)); (case sz => (refine (show Below w3.heap.size w3 _ from ?_).size; (repeat (first | (with_reducible exact LB4.out) | (with_reducible exact Below.refl _ _) | (with_reducible refine Below.drew ?_) | (with_reducible refine bel_alloc6 ?_ _))))); intro v5 w5 hr5 hg5 hb5; have R5 := Lib.hid hr5; have LB5 := Lib.hid (show Below w3.heap.size w3 w5 from Below.trans (by (repeat (first | (with_reducible exact LB4.out) | (with_reducible exact Below.refl _ _) | (with_reducible refine Below.drew ?_) | (with_reducible refine bel_alloc6 ?_ _)))) hb5); clear hr5 hg5 hb5))
                      all_goals
                        obtain ⟨g6, c6, hv6, hg6, hg6b⟩ := rd_shape (n := n) R6.out (by have h := HLV.out; rw [List.length_append, List.length_append, List.length_take, List.length_drop, List.length_singleton]; omega)
                        subst hv6
                        have HP2 := Lib.hid (Pl.made HBL.out.size HDS.out HVS.out R3.out LB3.out R6.out LB6.out hg3b hg6)
                        have HBL2 := Lib.hid (bel_step6 (bel_step6 HBL.out LB3.out) LB6.out)
                        clear R4 R5 R6 K4 LB4 LB5 hvk
                        go_wp2
                        go_roundw
                        case rel => exact ⟨d + 1, n + 1, g3, c3, g6, c6, _, _, rfl, rfl, by go_num, by omega, by omega, by omega, hn3, HP2, HI2, HBL2⟩
                        case measure => (simp [intOf]; omega)
              · obtain rfl : t = n := by omega
                by_cases hcd : cd = t
                all_goals by_cases hcv : cv = t
                all_goals
                  have HI2 := Lib.hid (HI.out.ins hd2 hdb (show p % (c * d) = 0 by rw [← HX.out, ← HR.out]) hkt (show t ≤ t by omega) (by rw [← HX.out]; exact HT.out) (fun h => absurd h (Nat.lt_irrefl _)))
                  have HIL := Lib.hid HI2.out.len
                  have hn3 := HI2.out.few hp hp'
                  have hvk := HP.out.vc k hlt
                  obtain ⟨v, hv⟩ : ∃ v, v = V.getD k 0 := ⟨_, rfl⟩
                  rw [← hv] at hvk
                  rw [← HX.out, ← hv] at HI2
                  clear hv
                  have hDL : (ic D).length = t := by rw [ic_len]; exact HP.out.dl.1
                  have hVL : (ic V).length = t := by rw [ic_len]; exact HP.out.dl.2.1
                  have HD := Lib.hid (show ∀ (W : World) (cc : Nat), Below wr.heap.size wr W → SrcV W (.slice (some ⟨gd, 0, none⟩) t cc) ((ic D).take t) from fun W cc hbw => (srcV_take HP.out.d t cc (by omega)).keep hbw)
                  have HDR := Lib.hid (show ∀ (W : World) (cc o m : Nat), Below wr.heap.size wr W → (t < t → o = t) → m = t - t → SrcV W (.slice (some ⟨gd, o, none⟩) m cc) ((ic D).drop t) from fun W cc o m hbw ho hm => (srcV_drop HP.out.d t cc o m (by omega) (fun h => ho (by omega)) (by omega)).keep hbw)
                  have HV := Lib.hid (show ∀ (W : World) (cc : Nat), Below wr.heap.size wr W → SrcV W (.slice (some ⟨gv, 0, none⟩) t cc) ((ic V).take t) from fun W cc hbw => (srcV_take HP.out.v t cc (by omega)).keep hbw)
                  have HVR := Lib.hid (show ∀ (W : World) (cc o m : Nat), Below wr.heap.size wr W → (t < t → o = t) → m = t - t → SrcV W (.slice (some ⟨gv, o, none⟩) m cc) ((ic V).drop t) from fun W cc o m hbw ho hm => (srcV_drop HP.out.v t cc o m (by omega) (fun h => ho (by omega)) (by omega)).keep hbw)
                  have HVK := Lib.hid (show ∀ W : World, Below wr.heap.size wr W → W.cell? ⟨gv, k, none⟩ = some (.int .i64 (v : Int)) from fun W hbw => Below.keeps_cell hbw hvk)
                  obtain ⟨ds, hds⟩ : ∃ ds, ds = ic D := ⟨_, rfl⟩
                  obtain ⟨vs, hvs⟩ : ∃ vs, vs = ic V := ⟨_, rfl⟩
                  have HDS := Lib.hid hds
                  have HVS := Lib.hid hvs
                  rw [← hds] at hDL HD HDR
                  rw [← hvs] at hVL HV HVR
                  clear hds hvs
                  have HLD := Lib.hid hDL
                  have HLV := Lib.hid hVL
                  have hDLg : ds.length ≤ 2000000 := by omega
                  have hVLg : vs.length ≤ 2000000 := by omega
                  clear hDL hVL hvk hck
                  go_wp2
                  go_region_held3 (fun _ => True) (trivial) (first
                        | (go_at_call 138; (refine (ownV_any _ ((ds).take t) _ (HD.out _ _ ?bel) ?len).mono ?_; (case bel => (repeat (first | (with_reducible exact Below.refl _ _) | (with_reducible refine Below.drew ?_) | (with_reducible refine bel_alloc6 ?_ _)))); (case len => (rw [List.length_take]; omega)); rintro e w1 ⟨v1, rfl, hr1, hb1⟩; have K1 := Lib.hid hb1; have R1 := Lib.hid (show Rd w1 wr.heap.size v1 ((ds).take t) from hr1.mono (by first | exact Nat.le_refl _ | (simp; done) | (simp; omega))); have LB1 := Lib.hid (show Below wr.heap.size wr w1 from bel_step6 (by (repeat (first | (with_reducible exact Below.refl _ _) | (with_reducible refine Below.drew ?_) | (with_reducible refine bel_alloc6 ?_ _)))) hb1); clear hr1 hb1))
                        | (refine step_appV rfl (.tmp 79) (.tmp 82) rfl wr.heap.size v2 (.slice (some ⟨gd, _, none⟩) _ _) ((ds).take t ++ [(X : Int)]) ((ds).drop t) rfl rfl R2.out (HDR.out _ _ _ _ LB2.out (by intro hh; first | rfl | omega) (by omega)) (.inr ⟨_, _, _, rfl⟩) ?len LB2.out.size ?_; (case len => (rw [List.length_append, List.length_take, List.length_drop, List.length_singleton]; omega)); intro v3 w3 hr3 hg3 hb3; have R3 := Lib.hid hr3; have LB3 := Lib.hid (LB2.out.trans hb3); clear hr3 hg3 hb3)
                        | (refine step_appV rfl (.tmp 76) (.tmp 78) rfl wr.heap.size v1 (.slice (some ⟨w1.heap.size, 0, none⟩) 1 1) ((ds).take t) [(X : Int)] rfl rfl ?rv (srcV_one (by simp [go_sem])) (.inl (Nat.le_refl 1)) ?len ?sz ?_; (case rv => (repeat (first | (with_reducible exact R1.out) | (with_reducible refine Rd.drew ?_) | (with_reducible refine Rd.alloc ?_ _)))); (case len => (rw [List.length_take, List.length_singleton]; omega)); (case sz => (refine (show Below wr.heap.size wr _ from ?_).size; (repeat (first | (with_reducible exact LB1.out) | (with_reducible exact Below.refl _ _) | (with_reducible refine Below.drew ?_) | (with_reducible refine bel_alloc6 ?_ _))))); intro v2 w2 hr2 hg2 hb2; have R2 := Lib.hid hr2; have LB2 := Lib.hid (show Below wr.heap.size wr w2 from Below.trans (by (repeat (first | (with_reducible exact LB1.out) | (with_reducible exact Below.refl _ _) | (with_reducible refine Below.drew ?_) | (with_reducible refine bel_alloc6 ?_ _)))) hb2); clear hr2 hg2 hb2)
                        | (refine step_appV rfl (.tmp 76) (.tmp 78) rfl wr.heap.size v1 (.slice (some ⟨wr.heap.size, 0, none⟩) 1 1) ((ds).take t) [(X : Int)] rfl rfl ?rv (srcV_one (Below.keeps_cell K1.out (by simp [go_sem]))) (.inl (Nat.le_refl 1)) ?len ?sz ?_; (case rv => (repeat (first | (with_reducible exact R1.out) | (with_reducible refine Rd.drew ?_) | (with_reducible refine Rd.alloc ?_ _)))); (case len => (rw [List.length_take, List.length_singleton]; omega)); (case sz => (refine (show Below wr.heap.size wr _ from ?_).size; (repeat (first | (with_reducible exact LB1.out) | (with_reducible exact Below.refl _ _) | (with_reducible refine Below.drew ?_) | (with_reducible refine bel_alloc6 ?_ _))))); intro v2 w2 hr2 hg2 hb2; have R2 := Lib.hid hr2; have LB2 := Lib.hid (show Below wr.heap.size wr w2 from Below.trans (by (repeat (first | (with_reducible exact LB1.out) | (with_reducible exact Below.refl _ _) | (with_reducible refine Below.drew ?_) | (with_reducible refine bel_alloc6 ?_ _)))) hb2); clear hr2 hg2 hb2))
                  all_goals
                    obtain ⟨g3, c3, hv3, hg3, hg3b⟩ := rd_shape (n := t) R3.out (by have h := HLD.out; rw [List.length_append, List.length_append, List.length_take, List.length_drop, List.length_singleton]; omega)
                    subst hv3
                    have HV2 := Lib.hid (show ∀ (W : World) (cc : Nat), Below w3.heap.size w3 W → SrcV W (.slice (some ⟨gv, 0, none⟩) t cc) (vs.take t) from fun W cc hbw => HV.out W cc (bel_step6 LB3.out hbw))
                    have HV2R := Lib.hid (show ∀ (W : World) (cc o m : Nat), Below w3.heap.size w3 W → (t < t → o = t) → m = t - t → SrcV W (.slice (some ⟨gv, o, none⟩) m cc) (vs.drop t) from fun W cc o m hbw => HVR.out W cc o m (bel_step6 LB3.out hbw))
                    have HVK2 := Lib.hid (show ∀ W : World, Below w3.heap.size w3 W → W.cell? ⟨gv, k, none⟩ = some (.int .i64 (v : Int)) from fun W hbw => HVK.out W (bel_step6 LB3.out hbw))
                    clear R1 R2 K1 LB1 LB2 HD HDR HV HVR HVK
                    have hvk := HVK2.out w3 (Below.refl _ _)
                    go_wp2
                    go_region_held3 (fun w' => w'.cell? ⟨gv, k, none⟩ = some (.int .i64 (v : Int))) (first | (refine HVK2.out _ ?_; (repeat (first | (with_reducible exact LB6.out) | (with_reducible exact LB5.out) | (with_reducible exact LB4.out) | (with_reducible exact Below.refl _ _) | (with_reducible refine Below.drew ?_) | (with_reducible refine bel_alloc6 ?_ _))))) (first
                        | (go_at_call 138; (refine (ownV_any _ ((vs).take t) _ (HV2.out _ _ ?bel) ?len).mono ?_; (case bel => (repeat (first | (with_reducible exact Below.refl _ _) | (with_reducible refine Below.drew ?_) | (with_reducible refine bel_alloc6 ?_ _)))); (case len => (rw [List.length_take]; omega)); rintro e w4 ⟨v4, rfl, hr4, hb4⟩; have K4 := Lib.hid hb4; have R4 := Lib.hid (show Rd w4 w3.heap.size v4 ((vs).take t) from hr4.mono (by first | exact Nat.le_refl _ | (simp; done) | (simp; omega))); have LB4 := Lib.hid (show Below w3.heap.size w3 w4 from bel_step6 (by (repeat (first | (with_reducible exact Below.refl _ _) | (with_reducible refine Below.drew ?_) | (with_reducible refine bel_alloc6 ?_ _)))) hb4); clear hr4 hb4))
                        | (refine step_appV rfl (.tmp 93) (.tmp 96) rfl w3.heap.size v5 (.slice (some ⟨gv, _, none⟩) _ _) ((vs).take t ++ [(v : Int)]) ((vs).drop t) rfl rfl R5.out (HV2R.out _ _ _ _ LB5.out (by intro hh; first | rfl | omega) (by omega)) (.inr ⟨_, _, _, rfl⟩) ?len LB5.out.size ?_; (case len => (rw [List.length_append, List.length_take, List.length_drop, List.length_singleton]; omega)); intro v6 w6 hr6 hg6 hb6; have R6 := Lib.hid hr6; have LB6 := Lib.hid (LB5.out.trans hb6); clear hr6 hg6 hb6)
                        | (refine step_appV rfl (.tmp 87) (.tmp 92) rfl w3.heap.size v4 (.slice (some ⟨w4.heap.size, 0, none⟩) 1 1) ((vs).take t) [(v : Int)] rfl rfl ?rv (srcV_one (by simp [go_sem])) (.inl (Nat.le_refl 1)) ?len ?sz ?_; (case rv => (repeat (first | (with_reducible exact R4.out) | (with_reducible refine Rd.drew ?_) | (with_reducible refine Rd.alloc ?_ _)))); (case len => (rw [List.length_take, List.length_singleton]; omega)); (case sz => (refine (show Below w3.heap.size w3 _ from ?_).size; (repeat (first | (with_reducible exact LB4.out) | (with_reducible exact Below.refl _ _) | (with_reducible refine Below.drew ?_) | (with_reducible refine bel_alloc6 ?_ _))))); intro v5 w5 hr5 hg5 hb5; have R5 := Lib.hid hr5; have LB5 := Lib.hid (show Below w3.heap.size w3 w5 from Below.trans (by (repeat (first | (with_reducible exact LB4.out) | (with_reducible exact Below.refl _ _) | (with_reducible refine Below.drew ?_) | (with_reducible refine bel_alloc6 ?_ _)))) hb5); clear hr5 hg5 hb5)
                        | (refine step_appV rfl (.tmp 87) (.tmp 92) rfl w3.heap.size v4 (.slice (some ⟨w3.heap.size, 0, none⟩) 1 1) ((vs).take t) [(v : Int)] rfl rfl ?rv (srcV_one (Below.keeps_cell K4.out (by simp [go_sem]))) (.inl (Nat.le_refl 1)) ?len ?sz ?_; (case rv => (repeat (first | (with_reducible exact R4.out) | (with_reducible refine Rd.drew ?_) | (with_reducible refine Rd.alloc ?_ _)))); (case len => (rw [List.length_take, List.length_singleton]; omega)); (case sz => (refine (show Below w3.heap.size w3 _ from ?_).size; (repeat (first | (with_reducible exact LB4.out) | (with_reducible exact Below.refl _ _) | (with_reducible refine Below.drew ?_) | (with_reducible refine bel_alloc6 ?_ _))))); intro v5 w5 hr5 hg5 hb5; have R5 := Lib.hid hr5; have LB5 := Lib.hid (show Below w3.heap.size w3 w5 from Below.trans (by (repeat (first | (with_reducible exact LB4.out) | (with_reducible exact Below.refl _ _) | (with_reducible refine Below.drew ?_) | (with_reducible refine bel_alloc6 ?_ _)))) hb5); clear hr5 hg5 hb5))
                    all_goals
                      obtain ⟨g6, c6, hv6, hg6, hg6b⟩ := rd_shape (n := t) R6.out (by have h := HLV.out; rw [List.length_append, List.length_append, List.length_take, List.length_drop, List.length_singleton]; omega)
                      subst hv6
                      have HP2 := Lib.hid (Pl.made HBL.out.size HDS.out HVS.out R3.out LB3.out R6.out LB6.out hg3b hg6)
                      have HBL2 := Lib.hid (bel_step6 (bel_step6 HBL.out LB3.out) LB6.out)
                      clear R4 R5 R6 K4 LB4 LB5 hvk
                      go_wp2
                      go_roundw
                      case rel => exact ⟨d + 1, t + 1, g3, c3, g6, c6, _, _, rfl, rfl, by go_num, by omega, by omega, by omega, hn3, HP2, HI2, HBL2⟩
                      case measure => (simp [intOf]; omega)
          · have hrn : ¬ (r : Int) = 0 := by omega
            have HI2 := Lib.hid (HI.out.skip hd2 hdb (show ¬ p % (c * d) = 0 by rw [← HX.out, ← HR.out]; exact hr0))
            go_wp2
            go_roundw
            case rel => exact ⟨d + 1, n, gd, cd, gv, cv, D, V, rfl, rfl, by go_num, by omega, by omega, hlt, hn2, HP, HI2, HBL⟩
            case measure => (simp [intOf]; omega)
        · obtain rfl : d = b := by omega
          have HO := Lib.hid (Ot.next HI.out hb hb' hp hp')
          go_wp2
          go_roundw
          case rel => exact ⟨k + 1, n, gd, cd, gv, cv, D, V, rfl, rfl, by go_num, by omega, hn2, HP, HO, HBL⟩
          case measure => (simp [intOf]; omega)
    · obtain rfl : k = n := by omega
      rcases HO.out with ho | ⟨_, h1, h2, _, _, h5, h6, h7⟩
      · exact absurd ho.1 (by omega)
      · obtain ⟨m, rfl⟩ : ∃ m, k = m + 1 := ⟨k - 1, by omega⟩
        rw [Nat.add_sub_cancel] at h5 h6 h7
        have hcy := HP.out.dc m (by omega)
        have hcz := HP.out.vc m (by omega)
        have hncd := HP.out.dl.2.2.1
        have hncv := HP.out.dl.2.2.2
        obtain ⟨y, hy⟩ : ∃ y, y = D.getD m 0 := ⟨_, rfl⟩
        obtain ⟨z, hz⟩ : ∃ z, z = V.getD m 0 := ⟨_, rfl⟩
        rw [← hy] at hcy h5 h7
        rw [← hz] at hcz h6 h7
        have H7 := Lib.hid h7
        clear hy hz h7 HO
        by_cases hyp : y = p
        · have HZ := Lib.hid (show (z : Int) = CP by rw [HCP.out]; have := H7.out; rw [if_pos hyp] at this; omega)
          have hbe : ((y : Int) != (p : Int)) = false := bne_no (by omega)
          have hbe2 : ((y : Int) == (p : Int)) = true := beq_yes (by omega)
          clear hyp
          go_wp2
          go_ret
          exact ⟨by rw [HZ.out]; rfl, HBL.out⟩
        · have HZ := Lib.hid (show (0 : Int) = CP by rw [HCP.out]; have := H7.out; rw [if_neg hyp] at this; omega)
          have hbe : ((y : Int) != (p : Int)) = true := bne_yes (by omega)
          have hbe2 : ((y : Int) == (p : Int)) = false := beq_no (by omega)
          have hyp2 : ¬ (y : Int) = (p : Int) := by omega
          clear hyp
          go_wp2
          go_ret
          exact ⟨by rw [HZ.out]; rfl, HBL.out⟩

end Go.Proofs.Ytgiabadkbfbilaa

/- from XZX -/
namespace Go.Proofs.Ytgiabadkbfbilaa
open Go.RowKit
set_option linter.unusedVariables false
set_option linter.unusedSimpArgs false
set_option maxRecDepth 100000

def RCountWithProduct (b n : Int) : Int := ((ct b.toNat n.toNat : Nat) : Int)
def ansC (n b : Int) : Option Int := if 2 ≤ n then askI RCountWithProduct n b else none

theorem countWithProduct_int (n b : Int) (w : World) (h1 : 1 ≤ n) (h2 : n ≤ 1000000000000) (hb : 2 ≤ b) (hb' : b ≤ 16) :
    Calls Try.prog 108 #[.int .i64 b, .int .i64 n] w fun e w' => e = .returned (.int .i64 (RCountWithProduct b n)) ∧ Below w.heap.size w w' := by
  obtain ⟨c, rfl⟩ : ∃ c : Nat, b = (c : Int) := ⟨b.toNat, by omega⟩
  obtain ⟨p, rfl⟩ : ∃ p : Nat, n = (p : Int) := ⟨n.toNat, by omega⟩
  exact countWithProduct_any p c w (by omega) (by omega) (by omega) (by omega)
theorem prCount_int (n b : Int) (w : World) (h1 : 1 ≤ n) (h2 : n ≤ 1000000000000) (hb : 2 ≤ b) (hb' : b ≤ 16) :
    Calls Try.prog 109 #[.int .i64 n, .int .i64 b] w fun e w' => e = .returned (.int .i64 (RCountWithProduct b n)) ∧ w = w' := by
  obtain ⟨c, rfl⟩ : ∃ c : Nat, b = (c : Int) := ⟨b.toNat, by omega⟩
  obtain ⟨p, rfl⟩ : ∃ p : Nat, n = (p : Int) := ⟨n.toNat, by omega⟩
  exact prCount_any c (by omega) (by omega) p w (by omega) (by omega)
theorem prLists_int (n b : Int) (w : World) (h1 : 1 ≤ n) (h2 : n ≤ 1000000000000) (hb : 2 ≤ b) (hb' : b ≤ 16) :
    Calls Try.prog 110 #[.int .i64 n, .int .i64 b] w fun e w' => e = .returned (.int .i64 (RCountWithProduct b n)) ∧ Below w.heap.size w w' := by
  obtain ⟨c, rfl⟩ : ∃ c : Nat, b = (c : Int) := ⟨b.toNat, by omega⟩
  obtain ⟨p, rfl⟩ : ∃ p : Nat, n = (p : Int) := ⟨n.toNat, by omega⟩
  exact prLists_any c p w (by omega) (by omega) (by omega) (by omega)

theorem tell_countWithProduct (n b : Int) (w : World) (h2 : 2 ≤ n) :
    Calls Try.prog 94 #[.int .i64 n, .int .i64 b, .func (Fn.func 108) #[] #[]] w fun e w' => e = .returned (optRes (askI RCountWithProduct n b)) ∧ Below w.heap.size w w' := by
  by_cases hn : Num n
  · have a1 : decide (Num n) = true := decide_eq_true hn
    by_cases hB : Bas b
    · have a2 : decide (Bas b) = true := decide_eq_true hB
      have hR := Lib.hid (show askI RCountWithProduct n b = some (RCountWithProduct b n) from if_pos ⟨hn, hB⟩)
      obtain ⟨n0, n1⟩ := hn
      obtain ⟨b0, b1⟩ := hB
      go_enter Try.func94, Try.ntmps94
      go_wp2_with (first | (go_at_call 140; refine (isNumber_any _ _).mono ?_; rintro e w1 ⟨rfl, rfl⟩) | (go_at_call 111; refine (isBase_any _ _).mono ?_; rintro e w1 ⟨rfl, rfl⟩) | (go_at_call 108; refine (countWithProduct_int _ _ _ (by omega) n1 b0 b1).mono ?_; rintro e w1 ⟨rfl, hbl⟩; have HB := Lib.hid hbl; clear hbl))
      go_ret2
      exact ⟨by rw [hR.out]; rfl, HB.out⟩
    · have a2 : decide (Bas b) = false := decide_eq_false hB
      have hR := Lib.hid (show askI RCountWithProduct n b = none from if_neg (fun h => hB h.2))
      clear hn hB
      go_enter Try.func94, Try.ntmps94
      go_wp2_with (first | (go_at_call 140; refine (isNumber_any _ _).mono ?_; rintro e w1 ⟨rfl, rfl⟩) | (go_at_call 111; refine (isBase_any _ _).mono ?_; rintro e w1 ⟨rfl, rfl⟩))
      go_ret2
      exact ⟨by rw [hR.out]; rfl, Below.refl _ _⟩
  · have a1 : decide (Num n) = false := decide_eq_false hn
    have hR := Lib.hid (show askI RCountWithProduct n b = none from if_neg (fun h => hn h.1))
    clear hn
    go_enter Try.func94, Try.ntmps94
    go_wp2_with (first | (go_at_call 140; refine (isNumber_any _ _).mono ?_; rintro e w1 ⟨rfl, rfl⟩) | (go_at_call 111; refine (isBase_any _ _).mono ?_; rintro e w1 ⟨rfl, rfl⟩))
    go_ret2
    exact ⟨by rw [hR.out]; rfl, Below.refl _ _⟩

theorem impl_CountWithProduct (n b : Int) (w : World) :
    Calls Try.prog 42 #[.int .i64 n, .int .i64 b] w fun e w' => e = .returned (optRes (ansC n b)) ∧ Below w.heap.size w w' := by
  by_cases h2 : 2 ≤ n
  · have hR := Lib.hid (show ansC n b = askI RCountWithProduct n b from if_pos h2)
    go_enter Try.func42, Try.ntmps42
    go_wp2_with (go_at_call 94; refine (tell_countWithProduct _ _ _ h2).mono ?_; rintro e w1 ⟨rfl, hbl⟩; have HB := Lib.hid hbl; clear hbl)
    go_ret2
    exact ⟨by rw [hR.out]; rfl, HB.out⟩
  · have hR := Lib.hid (show ansC n b = none from if_neg h2)
    have h3 : n < 2 := by omega
    clear h2
    go_enter Try.func42, Try.ntmps42
    go_wp2
    go_ret2
    exact ⟨by rw [hR.out]; rfl, Below.refl _ _⟩

theorem spec_CountWithProduct (n b : Int) (w : World) :
    Calls Try.prog 43 #[.int .i64 n, .int .i64 b] w fun e w' => e = .returned (optRes (ansC n b)) ∧ Below w.heap.size w w' := by
  by_cases hq : Num n ∧ Bas b
  · have a1 : decide (Num n ∧ Bas b) = true := decide_eq_true hq
    by_cases h2 : 2 ≤ n
    · have hR := Lib.hid (show ansC n b = some (RCountWithProduct b n) by unfold ansC; rw [if_pos h2]; exact if_pos hq)
      obtain ⟨⟨n0, n1⟩, b0, b1⟩ := hq
      by_cases h3 : n < 1000
      · go_enter Try.func43, Try.ntmps43
        go_wp2_with (first | (go_at_call 92; refine (dgAsked_any _ _ _).mono ?_; rintro e w1 ⟨rfl, rfl⟩) | (go_at_call 109; refine (prCount_int _ _ _ (by omega) n1 b0 b1).mono ?_; rintro e w2 ⟨rfl, rfl⟩))
        go_ret2
        exact ⟨by rw [hR.out]; rfl, Below.refl _ _⟩
      · go_enter Try.func43, Try.ntmps43
        go_wp2_with (first | (go_at_call 92; refine (dgAsked_any _ _ _).mono ?_; rintro e w1 ⟨rfl, rfl⟩) | (go_at_call 110; refine (prLists_int _ _ _ (by omega) n1 b0 b1).mono ?_; rintro e w2 ⟨rfl, hbl⟩; have HB := Lib.hid hbl; clear hbl))
        go_ret2
        exact ⟨by rw [hR.out]; rfl, HB.out⟩
    · have hR := Lib.hid (show ansC n b = none from if_neg h2)
      have h3 : n < 2 := by omega
      clear hq
      go_enter Try.func43, Try.ntmps43
      go_wp2_with (go_at_call 92; refine (dgAsked_any _ _ _).mono ?_; rintro e w1 ⟨rfl, rfl⟩)
      go_ret2
      exact ⟨by rw [hR.out]; rfl, Below.refl _ _⟩
  · have a1 : decide (Num n ∧ Bas b) = false := decide_eq_false hq
    have hR := Lib.hid (show ansC n b = none by unfold ansC; split; (exact if_neg hq); rfl)
    clear hq
    go_enter Try.func43, Try.ntmps43
    go_wp2_with (go_at_call 92; refine (dgAsked_any _ _ _).mono ?_; rintro e w1 ⟨rfl, rfl⟩)
    go_ret2
    exact ⟨by rw [hR.out]; rfl, Below.refl _ _⟩

end Go.Proofs.Ytgiabadkbfbilaa
