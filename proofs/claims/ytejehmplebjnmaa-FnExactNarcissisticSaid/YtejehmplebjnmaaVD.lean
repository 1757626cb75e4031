/-
  Numbers that are their own power sums: the model's search.
-/
import Derived.Test.YtejehmplebjnmaaVB
import Derived.Test.YtejehmplebjnmaaVA
import Derived.Test.YtejehmplebjnmaaUC
import Derived.Test.YtejehmplebjnmaaM
import Derived.Test.YtejehmplebjnmaaE2
import Derived.Test.YtejehmplebjnmaaI
import Derived.Deep.RegionLaw
import Derived.Deep.RegionHeld3
import Derived.BigRegion
import Derived.Lib.SmallJoins
namespace Go.Proofs.Ytejehmplebjnmaa
open Go.RowKit
set_option linter.unusedVariables false
set_option linter.unusedSimpArgs false
set_option maxRecDepth 100000

/-- The search's record: the base, the power, what has been found. -/
def Srch (w : World) (gw b p : Nat) (v : Value) : Prop := w.heap[gw]? = some (.cells #[.int .i64 (b : Int), .int .i64 (p : Int), v] 66 (0, 0))
theorem Srch.lt {w : World} {gw b p : Nat} {v : Value} (h : Srch w gw b p v) : gw < w.heap.size := (Array.getElem?_eq_some_iff.1 h).1
theorem Srch.c0 {w : World} {gw b p : Nat} {v : Value} (h : Srch w gw b p v) : w.cell? ⟨gw, 0, none⟩ = some (.int .i64 (b : Int)) := by rw [cell_of_row w gw 0 _ _ _ h]; rfl
theorem Srch.c1 {w : World} {gw b p : Nat} {v : Value} (h : Srch w gw b p v) : w.cell? ⟨gw, 1, none⟩ = some (.int .i64 (p : Int)) := by rw [cell_of_row w gw 1 _ _ _ h]; rfl
theorem Srch.c2 {w : World} {gw b p : Nat} {v : Value} (h : Srch w gw b p v) : w.cell? ⟨gw, 2, none⟩ = some v := by rw [cell_of_row w gw 2 _ _ _ h]; rfl
theorem Srch.f {w : World} {gw b p : Nat} {v : Value} (h : Srch w gw b p v) (j : Nat) : w.frozen? ⟨gw, j, none⟩ = false := by
  unfold Srch at h
  simp [World.frozen?, h]
theorem Srch.keep {w w' : World} {gw b p : Nat} {v : Value} (h : Srch w gw b p v) (hb : Below w.heap.size w w') : Srch w' gw b p v := by
  unfold Srch at h ⊢
  rw [hb.block gw (Array.getElem?_eq_some_iff.1 h).1]
  exact h
theorem Srch.drew {w : World} {gw b p : Nat} {v : Value} (h : Srch w gw b p v) : Srch w.drew gw b p v := h
theorem Srch.set {w : World} {gw b p : Nat} {v : Value} (h : Srch w gw b p v) (u : Value) : Srch (w.setCell ⟨gw, 2, none⟩ u) gw b p u := by
  unfold Srch at h ⊢
  rw [heap_setCell_same w gw 2 _ _ u h]
  rfl
theorem Srch.other {w : World} {gw b p g j : Nat} {v u : Value} (h : Srch w gw b p v) (hne : gw ≠ g) : Srch (w.setCell ⟨g, j, none⟩ u) gw b p v := by
  unfold Srch at h ⊢
  rw [Below.heap_setCell w ⟨g, j, none⟩ u gw hne]
  exact h

theorem Srch.apart {w : World} {gw b p B : Nat} {x u : Value} {ys : List Int} (h : Srch w gw b p x) (hr : Rd w B u ys) : u.ownBlock ≠ some gw := by
  intro e
  rcases hr.2 with ⟨rfl, _⟩ | ⟨g, cap, cur, rfl, _, hh, _⟩
  · cases e
  · have e2 : g = gw := by simpa [Value.ownBlock] using e
    subst e2
    unfold Srch at h
    rw [h] at hh
    simp at hh
theorem gw_rd {w w' : World} {gw b p B : Nat} {x u : Value} {ys : List Int} (h : Srch w gw b p x) (hr : Rd w B u ys) (hg : w.grownBy w' (some gw)) : Rd w' B u ys := hr.grown hg (.inr (h.apart hr))

/-- Nothing that was there has changed but the record. -/
theorem gw_below {w w1 w2 : World} {gw : Nat} (h : w.grownBy w1 (some gw)) (hb : Below w1.heap.size w1 w2) : w.grownBy w2 (some gw) :=
  ⟨hb.os.trans h.os, hb.tape.trans h.tape, hb.output.trans h.output, Nat.le_trans h.size hb.size, fun i hi hne => (hb.block i (Nat.lt_of_lt_of_le hi h.size)).trans (h.block i hi hne)⟩
theorem gw_set {w w1 : World} {gw : Nat} (h : w.grownBy w1 (some gw)) (j : Nat) (u : Value) : w.grownBy (w1.setCell ⟨gw, j, none⟩ u) (some gw) := by
  have hb := (Below.refl gw w1).setCell (p := ⟨gw, j, none⟩) (Nat.le_refl _) u
  refine ⟨hb.os.trans h.os, hb.tape.trans h.tape, hb.output.trans h.output, Nat.le_trans h.size hb.size, fun i hi hne => ?_⟩
  rw [Below.heap_setCell w1 ⟨gw, j, none⟩ u i (fun e => hne (by rw [e]))]
  exact h.block i hi hne
theorem gw_refl (w : World) (gw : Nat) : w.grownBy w (some gw) := World.grownBy.refl _ _
theorem gw_below' {w w1 : World} {gw B : Nat} (h : w.grownBy w1 (some gw)) (hB : B ≤ gw) (hB2 : B ≤ w.heap.size) : Below B w w1 :=
  (Below.refl _ _).grown h hB2 (fun k hk => by simp at hk; omega)

theorem cntF_append (xs : List Int) : ∀ (ys zs : List Int), cntF (xs ++ ys) zs = cntF ys (cntF xs zs) := by
  induction xs with
  | nil => intro ys zs; rfl
  | cons x xs ih => intro ys zs; show cntF (xs ++ ys) (bump zs x) = _; rw [ih]; rfl
theorem cnt_snoc (b : Nat) (ds : List Nat) (d : Nat) : cnt (b : Int) (ints (ds ++ [d])) = bump (cnt (b : Int) (ints ds)) (d : Int) := by
  unfold cnt ints
  rw [List.map_append, cntF_append]
  rfl
theorem psn_snoc (p : Nat) (ds : List Nat) (d : Nat) : psn p (ds ++ [d]) = psn p ds + d ^ p := by
  unfold psn
  simp
theorem psn_append (p : Nat) (ds es : List Nat) : psn p (ds ++ es) = psn p ds + psn p es := by
  unfold psn
  simp
theorem psn_le {p : Nat} (hp : p ≤ 6) : ∀ (ds : List Nat), (∀ d ∈ ds, d ≤ 9) → psn p ds ≤ ds.length * 531441
  | [], _ => by show 0 ≤ _; omega
  | d :: ds, h => by
    rw [psn_cons, List.length_cons, Nat.add_mul, Nat.one_mul]
    have h1 := psn_le hp ds (fun x hx => h x (by simp [hx]))
    have h2 : d ^ p ≤ 531441 := by
      have h1 := Nat.pow_le_pow_left (h d (by simp)) p
      have h2 := Nat.pow_le_pow_right (show 0 < 9 by omega) hp
      have h3 : 9 ^ 6 = 531441 := by decide
      omega
    omega
theorem ints_len (ds : List Nat) : (ints ds).length = ds.length := by simp [ints]
theorem cnt_bd (b : Nat) : ∀ (xs ys : List Int) (m : Int), (∀ y ∈ ys, 0 ≤ y ∧ y ≤ m) → 0 ≤ m → ∀ y ∈ cntF xs ys, 0 ≤ y ∧ y ≤ m + xs.length
  | [], ys, m, h, hm => by intro y hy; have := h y hy; simp; omega
  | x :: xs, ys, m, h, hm => by
    intro y hy
    have := cnt_bd b xs (bump ys x) (m + 1) (bump_bd ys x m h hm) (by omega) y hy
    simp
    omega

/-- What is found from digits already taken is a number that is its own power sum. -/
theorem fnd_own {b p n m : Nat} {ds : List Nat} (hb : 2 ≤ b) (hb' : b ≤ 16) (hp : 1 ≤ p) (hp' : p ≤ 8) (hds : ∀ d ∈ ds, d < b) (hm : m < b) {z : Int} (h : Fnd b p n m (psn p ds) (cnt (b : Int) (ints ds)) z) : z ∈ ownL b p := by
  obtain ⟨es, h1, h2, h3, h4⟩ := h
  have h5 : cnt (b : Int) (dgs (b : Int) z) = cnt (b : Int) (ints (ds ++ es)) := by
    rw [h4]
    unfold cnt ints
    rw [List.map_append, cntF_append]
  have hes : ∀ d ∈ es, d < b := fun d hd => by have := ((desc_iff es m).1 h2).2 d hd; omega
  rw [← psn_append] at h3
  subst h3
  have hall : ∀ x ∈ ints (ds ++ es), 0 ≤ x ∧ x < (b : Int) := fun x hx => by
    obtain ⟨d, hd, rfl⟩ := List.mem_map.1 hx
    rcases List.mem_append.1 hd with hd | hd
    · have := hds d hd; omega
    · have := hes d hd; omega
  have hperm := cnt_perm (dgs_allB hb) hall h5
  rw [ownL_mem hb hb' hp hp']
  refine ⟨psn p (ds ++ es), rfl, ?_⟩
  rw [← psl_dgs hb hp, psl_perm p hperm, psl_ints]
theorem rise_len {xs ys : List Int} (hx : xs.Pairwise (· < ·)) (hy : ys.Pairwise (· < ·)) (h : ∀ z ∈ xs, z ∈ ys) : xs.length ≤ ys.length := by
  have e : xs = ys.filter (fun z => decide (z ∈ xs)) := rise_unique hx (hy.sublist List.filter_sublist) (fun z => by
    rw [List.mem_filter, decide_eq_true_eq]
    exact ⟨fun hz => ⟨h z hz, hz⟩, fun hz => hz.2⟩)
  rw [e]
  exact List.length_filter_le _ _

set_option maxHeartbeats 400000 in
theorem try_leaf (gw b p gc cc B : Nat) (ds : List Nat) (m : Int) (v : Value) (fs : List Int) (w : World) (hb : 2 ≤ b) (hb' : b ≤ 10) (hp : 1 ≤ p) (hp' : p ≤ 6) (hds : ∀ d ∈ ds, d < b) (hdl : ds.length ≤ 8)
    (hS : Srch w gw b p v) (hF : Rd w B v fs) (hR : fs.Pairwise (· < ·)) (hO : ∀ z ∈ fs, z ∈ ownL b p) (hC : Rd w B (.slice (some ⟨gc, 0, none⟩) b cc) (cnt (b : Int) (ints ds))) (hB : B ≤ w.heap.size) :
    Calls Try.prog 78 #[.pointer (some ⟨gw, 0, none⟩), .int .i64 0, .int .i64 m, .int .i64 ((psn p ds : Nat) : Int), .slice (some ⟨gc, 0, none⟩) b cc] w fun e w' => e = .returned (.tuple #[]) ∧
      ∃ v' fs', Srch w' gw b p v' ∧ Rd w' B v' fs' ∧ fs'.Pairwise (· < ·) ∧ (∀ z, z ∈ fs' ↔ z ∈ fs ∨ Fnd b p 0 0 (psn p ds) (cnt (b : Int) (ints ds)) z) ∧ w.grownBy w' (some gw) := by
  have hsm := psn_le (p := p) hp' ds (fun d hd => by have := hds d hd; omega)
  have hfl : fs.length ≤ 100000 := Nat.le_trans (rise_len hR (cano_rise _) hO) (ownL_len hb hb' hp hp')
  have HFS := Lib.hid hS
  have HFF := Lib.hid hF
  have HFR := Lib.hid hR
  have HCC := Lib.hid hC
  have hsX : psn p ds ≤ 1000000000000 := by omega
  have hFz := Lib.hid (fun z => fnd_zero (b := b) (p := p) (m := 0) (s := psn p ds) (cs := cnt (b : Int) (ints ds)) (x := z))
  have HDA := Lib.hid (dgs_all (b : Int) ((psn p ds : Nat) : Int) (by omega) (by omega))
  have HDL := Lib.hid (dgs_len40 (b : Int) ((psn p ds : Nat) : Int) (by omega) (by omega) (by omega))
  have HCL := Lib.hid (show (cnt (b : Int) (ints ds)).length ≤ 2000000 by rw [cnt_len]; omega)
  have HCL2 := Lib.hid (show (cnt (b : Int) (dgs (b : Int) ((psn p ds : Nat) : Int))).length ≤ 2000000 by rw [cnt_len]; omega)
  obtain ⟨S, hSS⟩ : ∃ S, S = psn p ds := ⟨_, rfl⟩
  obtain ⟨cs, hcs⟩ : ∃ cs, cs = cnt (b : Int) (ints ds) := ⟨_, rfl⟩
  obtain ⟨es, hes⟩ : ∃ es, es = cnt (b : Int) (dgs (b : Int) (S : Int)) := ⟨_, rfl⟩
  rw [← hSS] at hFz HDA HDL hsX HCL2 ⊢
  rw [← hcs] at hFz HCC HCL ⊢
  rw [← hes] at hFz HCL2
  have hSi : (S : Int) ≤ 1000000000000 := by omega
  have hc0 := (hS.drew).c0
  have HES := Lib.hid hes
  have HB0 := Lib.hid (show Below w.heap.size w w.drew from (Below.refl _ _).drew)
  clear hS hF hR hO hC hSS hcs hes hsm hds
  cases hq : decide (es = cs)
  · have hne := of_decide_eq_false hq
    have HNE := Lib.hid (show ∀ z, ¬ Fnd b p 0 0 S cs z from fun z h => hne ((hFz.out z).1 h).2)
    clear hne
    go_enter Try.func78, Try.ntmps78
    go_wp2
    go_region_held3 (fun w' => w'.cell? ⟨gw, 0, none⟩ = some (.int .i64 (b : Int))) (first | exact hc0 | exact hc1 | exact hc2 | exact hc3) (first
      | (go_at_call 96; refine (dgOf_any (S : Int) (b : Int) _ (by omega) hSi (by omega) (by omega)).mono ?_; rintro e w1 ⟨u1, rfl, hr1, hb1⟩; have R1 := Lib.hid hr1; have B1 := Lib.hid (Below.step HB0.out HB0.out.size hb1); have hc1 := (HFS.out.keep B1.out).c0; clear hr1 hb1)
      | (go_at_call 95; refine (dgCounts_any _ _ (b : Int) _ _ R1.out (by omega) (by omega) HDA.out (by have := HDL.out; omega)).mono ?_; rw [← HES.out]; rintro e w2 ⟨u2, rfl, hr2, hb2⟩; have R2 := Lib.hid hr2; have B2 := Lib.hid (Below.step B1.out B1.out.size hb2); have hc2 := (HFS.out.keep B2.out).c0; clear hr2 hb2)
      | (go_at_call 94; refine (l1Same_any _ _ es cs _ R2.out.sl (HCC.out.keep B2.out).sl HCL2.out HCL.out).mono ?_; rw [hq]; rintro e w3 ⟨rfl, hb3⟩; have B3 := Lib.hid (Below.step B2.out B2.out.size hb3); have hc3 := (HFS.out.keep B3.out).c0; clear hb3))
    go_wp2
    first
      | go_end0
      | (refine bodyPost_ret (results_none rfl _ _ _) rfl ?_)
    exact ⟨rfl, v, fs, HFS.out.keep B3.out, HFF.out.keep B3.out, HFR.out, fun z => ⟨fun h => .inl h, fun h => h.elim id (fun h => absurd h (HNE.out z))⟩, gw_below (gw_refl w gw) B3.out⟩
  · have he := of_decide_eq_true hq
    have HYE := Lib.hid (show ∀ z, Fnd b p 0 0 S cs z ↔ z = (S : Int) from fun z => (hFz.out z).trans ⟨fun h => h.1, fun h => ⟨h, he⟩⟩)
    clear he
    go_enter Try.func78, Try.ntmps78
    go_wp2
    go_region_held3 (fun w' => w'.cell? ⟨gw, 0, none⟩ = some (.int .i64 (b : Int))) (first | exact hc0 | exact hc1 | exact hc2 | exact hc3) (first
      | (go_at_call 96; refine (dgOf_any (S : Int) (b : Int) _ (by omega) hSi (by omega) (by omega)).mono ?_; rintro e w1 ⟨u1, rfl, hr1, hb1⟩; have R1 := Lib.hid hr1; have B1 := Lib.hid (Below.step HB0.out HB0.out.size hb1); have hc1 := (HFS.out.keep B1.out).c0; clear hr1 hb1)
      | (go_at_call 95; refine (dgCounts_any _ _ (b : Int) _ _ R1.out (by omega) (by omega) HDA.out (by have := HDL.out; omega)).mono ?_; rw [← HES.out]; rintro e w2 ⟨u2, rfl, hr2, hb2⟩; have R2 := Lib.hid hr2; have B2 := Lib.hid (Below.step B1.out B1.out.size hb2); have hc2 := (HFS.out.keep B2.out).c0; clear hr2 hb2)
      | (go_at_call 94; refine (l1Same_any _ _ es cs _ R2.out.sl (HCC.out.keep B2.out).sl HCL2.out HCL.out).mono ?_; rw [hq]; rintro e w3 ⟨rfl, hb3⟩; have B3 := Lib.hid (Below.step B2.out B2.out.size hb3); have hc3 := (HFS.out.keep B3.out).c0; clear hb3))
    have S3 := Lib.hid (HFS.out.keep B3.out)
    have F3 := Lib.hid (HFF.out.keep B3.out)
    have hcf := S3.out.c2
    have hgl := S3.out.lt
    have hB3 := Nat.le_trans hB B3.out.size
    clear hc0 hc1 hc2 hc3 R1 R2
    go_wp2_with fail
    refine (l1PutV_any _ fs (S : Int) B _ F3.out hB3 (by omega) HFR.out).mono ?_
    rintro e w4 ⟨u, rfl, ys, hry, hrp, hrm, hb4⟩
    have S4 := Lib.hid (S3.out.keep hb4)
    have RY := Lib.hid hry
    have RP := Lib.hid hrp
    have RM := Lib.hid hrm
    have B4 := Lib.hid (Below.step B3.out B3.out.size hb4)
    obtain ⟨a, c4, rfl⟩ := hry.sl.len
    have hf4 := S4.out.f 2
    have hc4 := S4.out.c2
    clear hry hrp hrm hb4
    go_wp2
    first
      | go_end0
      | (refine bodyPost_ret (results_none rfl _ _ _) rfl ?_)
    exact ⟨rfl, _, ys, S4.out.set _, gw_rd S4.out RY.out (gw_set (gw_refl _ gw) 2 _), RP.out, fun z => (RM.out z).trans (or_congr Iff.rfl (HYE.out z).symm), gw_set (gw_below (gw_refl w gw) B4.out) 2 _⟩

end Go.Proofs.Ytejehmplebjnmaa
