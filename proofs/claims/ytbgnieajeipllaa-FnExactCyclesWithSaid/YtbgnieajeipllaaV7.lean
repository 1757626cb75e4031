/-
  The cycle behind a number: the program's.
-/
import Derived.Test.YtbgnieajeipllaaV6
namespace Go.Proofs.Ytbgnieajeipllaa
open Go.RowKit
set_option linter.unusedVariables false
set_option linter.unusedSimpArgs false
set_option maxRecDepth 100000

def ixN : List Int → Int → Nat
  | [], _ => 0
  | z :: zs, x => if z = x then 0 else ixN zs x + 1
theorem ixN_spec {x : Int} : ∀ zs : List Int, x ∈ zs → ixN zs x < zs.length ∧ zs.getD (ixN zs x) 0 = x ∧ ∀ j, j < ixN zs x → zs.getD j 0 ≠ x
  | [], h => by simp at h
  | z :: zs, h => by
    unfold ixN
    by_cases e : z = x
    · rw [if_pos e]
      exact ⟨by simp, by simpa using e, fun j hj => by omega⟩
    · rw [if_neg e]
      have hm : x ∈ zs := by
        rcases List.mem_cons.1 h with h | h
        · exact absurd h.symm e
        · exact h
      obtain ⟨a, b, c⟩ := ixN_spec zs hm
      refine ⟨by simp; omega, by simpa using b, fun j hj => ?_⟩
      cases j with
      | zero => simpa using e
      | succ j => simpa using c j (by omega)
theorem idx_run {xs : List Int} {y : Int} (h : y ∈ xs) : Lib.idxOf ((xs ++ [y]).take (xs.length + 1)) y = (ixN xs y : Int) := by
  obtain ⟨a, b, c⟩ := ixN_spec xs h
  rw [List.take_of_length_le (by simp)]
  have hg : ∀ j, j < xs.length → (xs ++ [y]).getD j 0 = xs.getD j 0 := fun j hj => by
    rw [List.getD_eq_getElem?_getD, List.getD_eq_getElem?_getD, List.getElem?_append_left hj]
  have h1 := Lib.idxFrom_hit y (xs ++ [y]) (ixN xs y) 0 (by simp; omega) (by rw [hg _ a]; exact b) (fun j hj => by rw [hg _ (by omega)]; exact c j hj)
  rw [Nat.zero_add] at h1
  exact h1
theorem nodup_getD {c : List Int} (h : c.Nodup) {i j : Nat} (hi : i < c.length) (hj : j < i) : c.getD j 0 ≠ c.getD i 0 := by
  have h2 := (List.pairwise_iff_getElem.1 h) j i (by omega) hi hj
  simpa [show j < c.length by omega, hi] using h2
theorem idx_min {c : List Int} (h : c.Nodup) (h0 : 0 < c.length) : Lib.idxOf (c.take c.length) (Lib.minOf (c.take c.length)) = (mi c : Int) := by
  rw [List.take_of_length_le (Nat.le_refl _)]
  have h1 := Lib.idxFrom_hit (Lib.minOf c) c (mi c) 0 (mi_lt h0) (mi_min h0) (fun j hj => by
    rw [← mi_min h0]
    exact nodup_getD h (mi_lt h0) hj)
  rw [Nat.zero_add] at h1
  exact h1

def cyX (o : List Int × Int) : List Int := turn (o.1.drop (ixN o.1 o.2))
/-- The cycle behind a number, its least number first. -/
def cyO (d n : Int) : Option (List Int) := (hdc d [] n).map cyX
theorem turn_two (c : List Int) : jnP (fun i => if i = 0 then c.drop (mi c) else c.take (mi c)) 2 = turn c := by
  show ([] ++ (if 0 = 0 then c.drop (mi c) else c.take (mi c))) ++ (if 1 = 0 then c.drop (mi c) else c.take (mi c)) = _
  simp [turn]

theorem concat2_any (W : World) (g : Nat) (u0 u1 : Value) (Y : List Int) (d : Nat) (c0 : W.cell? ⟨g, 0, none⟩ = some u0) (c1 : W.cell? ⟨g, 1, none⟩ = some u1) (r0 : Src W u0 (Y.drop d)) (r1 : Src W u1 (Y.take d)) (hp : d < Y.length) (h0 : Y.length ≤ 1000) :
    Calls Try.prog 93 #[.slice (some ⟨g, 0, none⟩) 2 2] W fun e w' => ∃ v, e = .returned v ∧ Rd w' W.heap.size v (Y.drop d ++ Y.take d) ∧ Below W.heap.size W w' := by
  have hj2 : jnP (fun i => if i = 0 then Y.drop d else Y.take d) 2 = Y.drop d ++ Y.take d := by
    show ([] ++ (if 0 = 0 then Y.drop d else Y.take d)) ++ (if 1 = 0 then Y.drop d else Y.take d) = _
    simp
  have hj1 : jnP (fun i => if i = 0 then Y.drop d else Y.take d) 1 = Y.drop d := by
    show ([] ++ (if 0 = 0 then Y.drop d else Y.take d)) = _
    simp
  refine (concatI_any g 2 2 (fun i => if i = 0 then u0 else u1) (fun i => if i = 0 then Y.drop d else Y.take d) W (fun i hi => ?_) (fun i hi => ?_) ?_ (fun i hi => ?_) (by omega)).mono ?_
  · match i, hi with
    | 0, _ => exact c0
    | 1, _ => exact c1
  · match i, hi with
    | 0, _ => exact r0
    | 1, _ => exact r1
  · rw [hj2]; simp; omega
  · match i, hi with
    | 0, _ => simp [jnP]
    | 1, _ => rw [hj1]; simp; omega
    | 2, _ => rw [hj2]; simp; omega
  · rintro e w' ⟨v, rfl, hr, hb⟩
    rw [hj2] at hr
    exact ⟨v, rfl, hr, hb⟩

set_option maxHeartbeats 1000000 in
theorem cycleFrom_any (n d : Int) (g : Nat) (w : World) (hn : Nst n) (d0 : 0 ≤ d) (d1 : d ≤ 99) (hc : w.cell? ⟨g, 0, none⟩ = some (.int .i64 d)) :
    Calls Try.prog 79 #[.int .i64 n, stepV g] w fun e w' => ∃ v, e = .returned (.tuple #[v, .bool (cyO d n).isSome]) ∧ Rd w' w.heap.size v ((cyO d n).getD []) ∧ Below w.heap.size w w' := by
  have hmm := @run_makeMap Try.prog
  have hmf : ∀ (fn : Fn) (first cap : Array Value) (w : World), (Instr.makeFunc fn first cap).run Try.prog w = .ok (.func fn first cap) w := fun _ _ _ _ => rfl
  obtain ⟨X, hX⟩ : ∃ X, X = hdc d [] n := ⟨_, rfl⟩
  have HP := Lib.hid (hdc_props (d := d) 1000 [] n (by simp) (by simp) List.nodup_nil hn (by simp))
  have HO := Lib.hid (show cyO d n = X.map cyX by rw [cyO, hX])
  have HRUN := Lib.hid (show ∀ w' : World, w'.cell? ⟨g, 0, none⟩ = some (.int .i64 d) → ∀ gp b, w'.cell? ⟨gp, 0, none⟩ = some (.map (some b)) → St w' NB b (fun _ => false) →
      Calls Try.prog 59 #[.agg #[stepV g, .func (.func 90) #[] #[.pointer (some ⟨gp, 0, none⟩)]], .int .i64 n] w' fun e w'' => ∃ v, e = .returned (.tuple #[v, .bool X.isSome]) ∧ Rd w'' w'.heap.size v (runO X) ∧ w'.grownBy w'' (some b) from
    fun w' h1 gp b h2 h3 => by rw [hX]; exact run_seen n d g gp b w' hn d0 d1 h1 h2 h3)
  rw [HO.out]
  rw [← hX] at HP
  have HB1 := Lib.hid (show Below w.heap.size w ((w.alloc (.map #[] 0)).alloc (.cells #[.map (some w.heap.size)] 66)) from ((Below.refl _ _).alloc (Nat.le_refl _) _).alloc (by simp) _)
  have HS1 := Lib.hid ((St.made w NB).alloc (.cells #[.map (some w.heap.size)] 66))
  have HC1 := Lib.hid (Below.keeps_cell HB1.out hc)
  have HP1 := Lib.hid (show ((w.alloc (.map #[] 0)).alloc (.cells #[.map (some w.heap.size)] 66)).cell? ⟨w.heap.size + 1, 0, none⟩ = some (.map (some w.heap.size)) by simp [go_sem])
  have HR1 := Lib.hid (HRUN.out _ HC1.out _ _ HP1.out HS1.out)
  clear hX hn hc
  go_enter Try.func79, Try.ntmps79
  go_wp2_with fail
  refine HR1.out.mono ?_
  rintro e w2 ⟨v, rfl, hr, hg⟩
  have HB2 := Lib.hid (HB1.out.grown hg HB1.out.size (fun k hk => by cases hk; exact Nat.le_refl _))
  have HR2 := Lib.hid (hr.mono HB1.out.size)
  clear hr hg
  cases X with
  | none =>
    clear HP HRUN HR1
    go_wp2_with fail
    go_ret2
    exact ⟨_, rfl, Rd.nil _ _, HB2.out⟩
  | some o =>
    obtain ⟨xs, y⟩ := o
    obtain ⟨p1, p2, p3, _⟩ := HP.out xs y rfl
    obtain ⟨k1, k2, k3⟩ := ixN_spec xs p1
    have HIX := Lib.hid (idx_run p1)
    obtain ⟨k, hk⟩ : ∃ k, k = ixN xs y := ⟨_, rfl⟩
    rw [← hk] at k1 k2 k3 HIX
    obtain ⟨C, hC⟩ : ∃ C, C = xs.drop k := ⟨_, rfl⟩
    have hCL : C.length = xs.length - k := by rw [hC, List.length_drop]
    have hCN : C.Nodup := by rw [hC]; exact List.Nodup.sublist (List.drop_sublist _ _) p2
    have HRES := Lib.hid (show cyX (xs, y) = turn C by show turn (xs.drop (ixN xs y)) = _; rw [← hk, hC])
    have HIM := Lib.hid (idx_min hCN (by omega))
    have HMI := Lib.hid (mi_lt (xs := C) (by omega))
    obtain ⟨q, hq⟩ : ∃ q, q = mi C := ⟨_, rfl⟩
    rw [← hq] at HIM HMI
    obtain ⟨L, hL⟩ : ∃ L, L = xs.length := ⟨_, rfl⟩
    have hL1 : (xs ++ [y]).length = L + 1 := by rw [List.length_append, hL]; rfl
    obtain ⟨g5, c5, rfl, hcap⟩ : ∃ g cap, v = .slice (some ⟨g, 0, none⟩) (L + 1) cap ∧ L + 1 ≤ cap := by
      rcases HR2.out.cases with ⟨_, hx⟩ | ⟨g, cap, hu, _, _, h9, _⟩
      · exact absurd hx (by show xs ++ [y] ≠ []; simp)
      · subst hu
        refine ⟨g, cap, ?_, ?_⟩
        · show Value.slice _ (xs ++ [y]).length _ = _
          rw [hL1]
        · have h8 : (xs ++ [y]).length ≤ cap := by first | exact h9 | exact h9.1
          omega
    have HR3 := Lib.hid (show Rd w2 w.heap.size (.slice (some ⟨g5, 0, none⟩) (L + 1) c5) (xs ++ [y]) from HR2.out)
    have HCA := Lib.hid (HR3.out.cellsAt 0)
    rw [List.drop_zero] at HCA
    have hcellL : w2.cell? ⟨g5, L, none⟩ = some (.int .i64 y) := by
      have := HCA.out L (by rw [hL]; simp)
      rw [Nat.zero_add] at this
      rw [this, hL]
      simp [List.getD_eq_getElem?_getD]
    have HIDX := Lib.hid (Try.slices_Index_int g5 0 (L + 1) c5 (xs ++ [y]) y w2 (by rw [hL]; simp) (by omega) HCA.out)
    rw [hL, HIX.out, ← hL] at HIDX
    have HCC := Lib.hid (show CellsAt w2 g5 k C by
      have h1 := HR3.out.cellsAt k
      rw [List.drop_append_of_le_length (by omega), ← hC] at h1
      intro j hj
      have h2 := h1 j (by simp; omega)
      rw [h2, List.getD_eq_getElem?_getD, List.getD_eq_getElem?_getD, List.getElem?_append_left hj])
    have HML := Lib.hid (show L - k = C.length by rw [hCL, hL])
    have HMIN := Lib.hid (fun c => Try.slices_Min_int g5 k (L - k) c C w2 (by omega) (by rw [HML.out]; exact Nat.le_refl _) (by omega) HCC.out)
    have HIDM := Lib.hid (fun c => Try.slices_Index_int g5 k (L - k) c C (Lib.minOf (C.take (L - k))) w2 (by rw [HML.out]; exact Nat.le_refl _) (by omega) HCC.out)
    rw [show Lib.idxOf (C.take (L - k)) (Lib.minOf (C.take (L - k))) = (q : Int) by rw [HML.out]; exact HIM.out] at HIDM
    obtain ⟨mn, hmn⟩ : ∃ mn, mn = Lib.minOf (C.take (L - k)) := ⟨_, rfl⟩
    rw [← hmn] at HMIN HIDM
    have hqM : q < L - k := by have := HMI.out; have := HML.out; omega
    have hkL : k < L := by omega
    have hLb : L ≤ 1000 := by omega
    have HQ := Lib.hid hq
    have HSD := Lib.hid (show ∀ (W1 : World) (cc : Nat), Below w2.heap.size w2 W1 → Src W1 (.slice (some ⟨g5, k + q, none⟩) (L - k - q) cc) (C.drop q) from fun W1 cc hb => src_cells ((HCC.out.drop q).keep hb) (by rw [List.length_drop, ← HML.out]))
    have HST := Lib.hid (show ∀ (W1 : World) (cc : Nat), Below w2.heap.size w2 W1 → Src W1 (.slice (some ⟨g5, k, none⟩) q cc) (C.take q) from fun W1 cc hb => src_cells ((HCC.out.take q).keep hb) (by rw [List.length_take, ← HML.out]; omega))
    have HALL := Lib.hid (show ∀ a b : Nat, Below w2.heap.size w2 (w2.alloc (.cells #[.slice (some ⟨g5, k + q, none⟩) (L - k - q) a, .slice (some ⟨g5, k, none⟩) q b] 25)).drew from fun a b => ((Below.refl _ _).alloc (Nat.le_refl _) _).drew)
    have HCON := Lib.hid (show ∀ a b : Nat, Calls Try.prog 93 #[.slice (some ⟨w2.heap.size, 0, none⟩) 2 2] (w2.alloc (.cells #[.slice (some ⟨g5, k + q, none⟩) (L - k - q) a, .slice (some ⟨g5, k, none⟩) q b] 25)).drew fun e w' => ∃ v, e = .returned v ∧ Rd w' w.heap.size v (cyX (xs, y)) ∧ Below w.heap.size w w' from fun a b =>
      (concat2_any _ w2.heap.size (.slice (some ⟨g5, k + q, none⟩) (L - k - q) a) (.slice (some ⟨g5, k, none⟩) q b) C q (by simp [go_sem]) (by simp [go_sem]) (HSD.out _ _ (HALL.out a b)) (HST.out _ _ (HALL.out a b)) (by omega) (by omega)).mono (by
        rintro e w' ⟨v, rfl, h1, h2⟩
        have h3 := HB2.out.size
        have h4 := (HALL.out a b).size
        refine ⟨v, rfl, ?_, Below.step (Below.step HB2.out HB2.out.size (HALL.out a b)) (Nat.le_trans h3 h4) h2⟩
        rw [HRES.out, turn, ← HQ.out]
        exact h1.mono (Nat.le_trans h3 h4)))
    clear HP HRUN HR1 k1 k2 k3 p1 p2 p3 hk hC hCL hCN hq hL hmn
    go_wp2_with (first
      | (go_at_call 91; with_reducible (refine HIDX.out.mono ?_); rintro e w3 ⟨rfl, rfl⟩)
      | (go_at_call 92; with_reducible (refine (HMIN.out _).mono ?_); rintro e w4 ⟨rfl, rfl⟩)
      | (go_at_call 91; with_reducible (refine (HIDM.out _).mono ?_); rintro e w5 ⟨rfl, rfl⟩))
    have hq1 : q ≤ L - k := by omega
    have hq2 : q ≤ c5 - k := by omega
    have hq3 : q < c5 - k := by omega
    have hq4 : ¬ c5 - k = q := by omega
    go_region_law (go_simp; go_at_call 93; refine (HCON.out _ _).mono ?_; rintro e w6 ⟨u, rfl, hr6, hb6⟩; have HR6 := Lib.hid hr6; have HB6 := Lib.hid hb6; clear hr6 hb6)
    go_wp2
    go_ret2
    exact ⟨_, rfl, HR6.out, HB6.out⟩

end Go.Proofs.Ytbgnieajeipllaa
