/-
  Numbers with as many digits as their power: the program's filter.
-/
import Derived.Test.YtejehmplebjnmaaVF
import Derived.Test.YtejehmplebjnmaaC
import Derived.Test.YtejehmplebjnmaaUH
import Derived.Deep.RegionHeld3
import Derived.Lib.SliceRun
namespace Go.Proofs.Ytejehmplebjnmaa
open Go.RowKit
set_option linter.unusedVariables false
set_option linter.unusedSimpArgs false
set_option maxRecDepth 100000

theorem rd_zeros {g n cap B : Nat} : ∀ (m o : Nat) (xs : List Int) (w : World), Rd w B (.slice (some ⟨g, 0, none⟩) n cap) xs →
    ∃ zs, Rd (w.setCells g o (List.replicate m (.int .i64 0))) B (.slice (some ⟨g, 0, none⟩) n cap) zs ∧ zs.length = xs.length ∧ zs.take o = xs.take o ∧ w.grownBy (w.setCells g o (List.replicate m (.int .i64 0))) (some g)
  | 0, o, xs, w, h => ⟨xs, h, rfl, rfl, World.grownBy.refl _ _⟩
  | m + 1, o, xs, w, h => by
    have h1 := h.set o 0
    obtain ⟨zs, h2, h3, h4, h5⟩ := rd_zeros m (o + 1) _ _ h1.1
    refine ⟨zs, h2, by rw [h3]; simp, ?_, grown_trans h1.2 h5⟩
    have h6 := congrArg (List.take o) h4
    rw [List.take_take, List.take_take, Nat.min_eq_left (by omega)] at h6
    rw [h6, List.take_set_of_le (Nat.le_refl o)]

/-- What the filter takes away: the numbers with another number of digits. -/
def odd' (b k : Nat) (x : Int) : Bool := decide ((dgs (b : Int) x).length ≠ k)
def keep' (b k : Nat) (x : Int) : Bool := !odd' b k x

theorem width_any (x b k gb gk : Nat) (w : World) (hx : x ≤ 1000000000000) (hb : 2 ≤ b) (hb' : b ≤ 16) (hgb : w.cell? ⟨gb, 0, none⟩ = some (.int .i64 (b : Int))) (hgk : w.cell? ⟨gk, 0, none⟩ = some (.int .i64 (k : Int))) :
    Calls Try.prog 80 #[.int .i64 (x : Int), .pointer (some ⟨gb, 0, none⟩), .pointer (some ⟨gk, 0, none⟩)] w fun e w' => e = .returned (.bool (odd' b k (x : Int))) ∧ Below w.heap.size w w' := by
  have c0 : w.drew.cell? ⟨gb, 0, none⟩ = some (.int .i64 (b : Int)) := hgb
  have d0 : w.drew.cell? ⟨gk, 0, none⟩ = some (.int .i64 (k : Int)) := hgk
  have HCB := Lib.hid hgb
  have HCK := Lib.hid hgk
  have HB0 := Lib.hid (show Below w.heap.size w w.drew from (Below.refl _ _).drew)
  have HCD := Lib.hid (fun w' => countDigits_any (x : Int) (b : Int) w' (by omega) (by omega) (by omega) (by omega))
  have HO := Lib.hid (show odd' b k (x : Int) = (((dgs (b : Int) (x : Int)).length : Int) != (k : Int)) by
    unfold odd'
    by_cases h : (dgs (b : Int) (x : Int)).length = k
    · rw [bne_no (by omega)]; simp [h]
    · rw [bne_yes (by omega)]; simp [h])
  obtain ⟨L, hL⟩ : ∃ L, L = (dgs (b : Int) (x : Int)).length := ⟨_, rfl⟩
  rw [← hL] at HCD HO
  clear hL hgb hgk
  go_enter Try.func80, Try.ntmps80
  go_wp2
  go_region_held3 (fun w' => w'.cell? ⟨gb, 0, none⟩ = some (.int .i64 (b : Int)) ∧ w'.cell? ⟨gk, 0, none⟩ = some (.int .i64 (k : Int))) (first | exact ⟨c0, d0⟩ | exact ⟨c1, d1⟩) (first
    | (go_at_call 81; refine (HCD.out _).mono ?_; rintro e w1 ⟨rfl, hb1⟩; have B1 := Lib.hid (Below.step HB0.out HB0.out.size hb1); have c1 := Below.keeps_cell B1.out HCB.out; have d1 := Below.keeps_cell B1.out HCK.out; clear hb1))
  go_wp2
  go_ret
  exact ⟨by rw [HO.out]; rfl, B1.out⟩

end Go.Proofs.Ytejehmplebjnmaa
