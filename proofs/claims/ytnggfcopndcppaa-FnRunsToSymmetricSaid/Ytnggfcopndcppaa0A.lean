/-
  A cursor over bytes, as the laws' inputs are drawn with it: what it gives lies in range, and it changes nothing but itself.
-/
import Derived.Test.YtnggfcopndcppaaW2
import Derived.Test.YtnggfcopndcppaaE
import Derived.Test.YtnggfcopndcppaaTE
import Derived.Laws.BitsAllLaws
namespace Go.Proofs.Ytnggfcopndcppaa
open Go.RowKit
set_option linter.unusedVariables false
set_option linter.unusedSimpArgs false
set_option maxRecDepth 100000

/-- An argument: a slice of bytes (of an empty one nothing is known). -/
def Sb (w : World) (v : Value) (xs : List Int) : Prop := ∃ a cap, v = .slice a xs.length cap ∧ (∀ x ∈ xs, 0 ≤ x ∧ x ≤ 255) ∧
  (xs = [] ∨ ∃ b off, a = some ⟨b, off, none⟩ ∧ b < w.heap.size ∧ ∀ j (h : j < xs.length), w.cell? ⟨b, off + j, none⟩ = some (.int .u8 xs[j]))
theorem Sb.keep {w w' : World} {v : Value} {xs : List Int} (h : Sb w v xs) (hb : Below w.heap.size w w') : Sb w' v xs := by
  obtain ⟨a, cap, rfl, h1, h2⟩ := h
  refine ⟨a, cap, rfl, h1, ?_⟩
  rcases h2 with h2 | ⟨b, off, h1, h2, h3⟩
  · exact .inl h2
  · exact .inr ⟨b, off, h1, Nat.lt_of_lt_of_le h2 hb.size, fun j hj => (hb.cell (p := ⟨b, off + j, none⟩) h2).trans (h3 j hj)⟩
theorem Sb.len {w : World} {v : Value} {xs : List Int} (h : Sb w v xs) : ∃ a cap, v = .slice a xs.length cap := by
  obtain ⟨a, cap, rfl, _⟩ := h
  exact ⟨a, cap, rfl⟩

/-- A cursor in block g, over bytes that lie below it. -/
structure Cu (w : World) (g : Nat) (v : Value) (xs : List Int) (K : Nat) : Prop where
  code : w.cell? ⟨g, 0, none⟩ = some v
  at' : ∃ t : Nat, t ≤ K ∧ w.cell? ⟨g, 1, none⟩ = some (.int .i64 (t : Int))
  seed : ∃ s : Nat, s < 18446744073709551616 ∧ w.cell? ⟨g, 2, none⟩ = some (.int .u64 (s : Int))
  free : ∀ j, w.frozen? ⟨g, j, none⟩ = false
  lt : g < w.heap.size
  some' : ∃ a cap, v = .slice a xs.length cap
  all : ∀ x ∈ xs, 0 ≤ x ∧ x ≤ 255
  bytes : xs = [] ∨ ∃ b off cap, v = .slice (some ⟨b, off, none⟩) xs.length cap ∧ b < g ∧ ∀ j (h : j < xs.length), w.cell? ⟨b, off + j, none⟩ = some (.int .u8 xs[j])
  short : xs.length ≤ 1048576

/-- Behind what is written above it the cursor stands as before. -/
theorem Cu.keep {w w' : World} {g K : Nat} {v : Value} {xs : List Int} (h : Cu w g v xs K) (hb : Below (g + 1) w w') : Cu w' g v xs K := by
  have hc : ∀ j, w'.cell? ⟨g, j, none⟩ = w.cell? ⟨g, j, none⟩ := fun j => hb.cell (p := ⟨g, j, none⟩) (Nat.lt_succ_self g)
  refine ⟨(hc 0).trans h.code, ?_, ?_, fun j => (hb.frozen (p := ⟨g, j, none⟩) (Nat.lt_succ_self g)).trans (h.free j), Nat.lt_of_lt_of_le h.lt hb.size, h.some', h.all, ?_, h.short⟩
  · obtain ⟨t, h1, h2⟩ := h.at'
    exact ⟨t, h1, (hc 1).trans h2⟩
  · obtain ⟨t, h1, h2⟩ := h.seed
    exact ⟨t, h1, (hc 2).trans h2⟩
  · rcases h.bytes with h1 | ⟨b, off, cap, h1, h2, h3⟩
    · exact .inl h1
    · exact .inr ⟨b, off, cap, h1, h2, fun j hj => (hb.cell (p := ⟨b, off + j, none⟩) (Nat.lt_succ_of_lt h2)).trans (h3 j hj)⟩
theorem Cu.alloc {w : World} {g K : Nat} {v : Value} {xs : List Int} (h : Cu w g v xs K) (o : Obj) : Cu (w.alloc o) g v xs K :=
  h.keep ((Below.refl _ _).alloc (Nat.succ_le_of_lt h.lt) o)
theorem Cu.drew {w : World} {g K : Nat} {v : Value} {xs : List Int} (h : Cu w g v xs K) : Cu w.drew g v xs K := h.keep (Below.refl _ _).drew
theorem Cu.mono {w : World} {g K K' : Nat} {v : Value} {xs : List Int} (h : Cu w g v xs K) (hK : K ≤ K') : Cu w g v xs K' := by
  obtain ⟨t, h1, h2⟩ := h.at'
  exact ⟨h.code, ⟨t, Nat.le_trans h1 hK, h2⟩, h.seed, h.free, h.lt, h.some', h.all, h.bytes, h.short⟩

theorem grown_alloc (w : World) (o : Obj) (row : Option Nat) : w.grownBy (w.alloc o) row := by
  have h := (Below.refl w.heap.size w).alloc (Nat.le_refl _) o
  exact ⟨h.os, h.tape, h.output, h.size, fun i hi _ => h.block i hi⟩
theorem and_255 (s : Nat) : ((s &&& 255 : Nat) : Int) ≤ 255 := by
  have : s &&& 255 ≤ 255 := Nat.and_le_right
  omega

theorem wrap_u64 (z : Int) : 0 ≤ IntKind.u64.wrap z ∧ IntKind.u64.wrap z < 18446744073709551616 := by
  have h : IntKind.u64.wrap z = z % 18446744073709551616 := by simp [IntKind.wrap, IntKind.signed, IntKind.bits]
  rw [h]
  omega

theorem seed_out (z : Int) : 0 ≤ wrap64 (bits BinOp.and IntKind.u64 (IntKind.u64.wrap z / 1099511627776) 255) ∧ wrap64 (bits BinOp.and IntKind.u64 (IntKind.u64.wrap z / 1099511627776) 255) ≤ 255 := by
  obtain ⟨h1, h2⟩ := wrap_u64 z
  rw [u64_and _ 255 (by omega) (by omega) (by omega) (by omega)]
  have h3 := and_255 (IntKind.u64.wrap z / 1099511627776).toNat
  have e : ((255 : Int)).toNat = 255 := rfl
  rw [e]
  obtain ⟨q, hq⟩ : ∃ q : Nat, q = (IntKind.u64.wrap z / 1099511627776).toNat &&& 255 := ⟨_, rfl⟩
  rw [← hq] at h3 ⊢
  have hw : wrap64 (q : Int) = (q : Int) := by unfold wrap64; omega
  rw [hw]
  omega
theorem Cu.stepped {w : World} {g K : Nat} {v : Value} {xs : List Int} (h : Cu w g v xs K) (t : Nat) (ht : t ≤ K + 1) (T : Int) (hT : T = (t : Int)) (S : Int) (hS : 0 ≤ S ∧ S < 18446744073709551616) :
    Cu ((w.setCell ⟨g, 1, none⟩ (.int .i64 T)).setCell ⟨g, 2, none⟩ (.int .u64 S)) g v xs (K + 1) ∧ w.grownBy ((w.setCell ⟨g, 1, none⟩ (.int .i64 T)).setCell ⟨g, 2, none⟩ (.int .u64 S)) (some g) := by
  subst hT
  have hgr : w.grownBy ((w.setCell ⟨g, 1, none⟩ (.int .i64 (t : Int))).setCell ⟨g, 2, none⟩ (.int .u64 S)) (some g) := grown_trans (grown_setCell w g 1 _) (grown_setCell _ g 2 _)
  have hb1 : Below g w (w.setCell ⟨g, 1, none⟩ (.int .i64 (t : Int))) := (Below.refl g w).setCell (p := ⟨g, 1, none⟩) (Nat.le_refl g) _
  have hb : Below g w ((w.setCell ⟨g, 1, none⟩ (.int .i64 (t : Int))).setCell ⟨g, 2, none⟩ (.int .u64 S)) := hb1.setCell (p := ⟨g, 2, none⟩) (Nat.le_refl g) _
  obtain ⟨t0, t1, t2⟩ := h.at'
  obtain ⟨s0, s1, s2⟩ := h.seed
  have n01 : (⟨g, 1, none⟩ : Addr) ≠ ⟨g, 0, none⟩ := fun e => by simp at e
  have n02 : (⟨g, 2, none⟩ : Addr) ≠ ⟨g, 0, none⟩ := fun e => by simp at e
  have n12 : (⟨g, 2, none⟩ : Addr) ≠ ⟨g, 1, none⟩ := fun e => by simp at e
  refine ⟨⟨?_, ⟨t, ht, ?_⟩, ⟨S.toNat, by omega, ?_⟩, fun j => ?_, by simpa using h.lt, h.some', h.all, ?_, h.short⟩, hgr⟩
  · rw [World.cell?_setCell_other _ _ _ _ n02, World.cell?_setCell_other _ _ _ _ n01]; exact h.code
  · rw [World.cell?_setCell_other _ _ _ _ n12]
    exact World.cell?_setCell_same _ _ _ t2
  · rw [show ((S.toNat : Nat) : Int) = S by omega]
    refine World.cell?_setCell_same _ _ _ (u := .int .u64 (s0 : Int)) ?_
    rw [World.cell?_setCell_other _ _ _ _ (Ne.symm n12)]; exact s2
  · rw [World.frozen?_setCell, World.frozen?_setCell]; exact h.free j
  · rcases h.bytes with h1 | ⟨b, off, cap, h1, h2, h3⟩
    · exact .inl h1
    · exact .inr ⟨b, off, cap, h1, h2, fun j hj => (hb.cell (p := ⟨b, off + j, none⟩) h2).trans (h3 j hj)⟩

theorem next_any (g : Nat) (v : Value) (xs : List Int) (K : Nat) (w : World) (h : Cu w g v xs K) (hK : K ≤ 2000000) :
    Calls Try.prog 98 #[.pointer (some ⟨g, 0, none⟩)] w fun e w' => ∃ x : Int, e = .returned (.int .i64 x) ∧ 0 ≤ x ∧ x ≤ 255 ∧ Cu w' g v xs (K + 1) ∧ w.grownBy w' (some g) := by
  have H := Lib.hid h
  obtain ⟨a, cap, rfl⟩ := h.some'
  obtain ⟨t, t1, ct⟩ := h.at'
  obtain ⟨s, s1, cs⟩ := h.seed
  have cc := h.code
  have f0 := h.free 0
  have f1 := h.free 1
  have f2 := h.free 2
  have hsh := h.short
  have hlt := h.lt
  by_cases hin : t < xs.length
  · obtain ⟨b, off, rfl, hbl, hcell⟩ : ∃ b off, a = some ⟨b, off, none⟩ ∧ b < g ∧ ∀ j (h : j < xs.length), w.cell? ⟨b, off + j, none⟩ = some (.int .u8 xs[j]) := by
      rcases h.bytes with h1 | ⟨b, off, cap', h1, h2, h3⟩
      · rw [h1] at hin; simp at hin
      · simp only [Value.slice.injEq, true_and] at h1
        exact ⟨b, off, h1.1, h2, h3⟩
    have hc := hcell t hin
    obtain ⟨x0, x1⟩ := h.all _ (List.getElem_mem hin)
    obtain ⟨x, hx⟩ : ∃ x, x = xs[t] := ⟨_, rfl⟩
    rw [← hx] at hc x0 x1
    obtain ⟨L, hL⟩ : ∃ L, L = xs.length := ⟨_, rfl⟩
    rw [← hL] at hin cc hsh
    have hx2 : x < 256 := by omega
    clear h hcell hx hL
    go_enter Try.func98, Try.ntmps98
    go_wp2
    go_region
    all_goals
      go_wp2
      go_region
      all_goals
        go_wp2
        go_region
        all_goals
          go_wp2
          go_ret
          exact ⟨x, rfl, x0, x1, (H.out.stepped (t + 1) (by omega) ((t : Int) + 1) (by omega) _ (wrap_u64 _)).1.drew.drew.drew, grown_drew (grown_drew (grown_drew (H.out.stepped (t + 1) (by omega) ((t : Int) + 1) (by omega) _ (wrap_u64 _)).2))⟩
  · have hle : ¬ ((t : Int) + 1 ≤ (xs.length : Int)) := by omega
    obtain ⟨L, hL⟩ : ∃ L, L = xs.length := ⟨_, rfl⟩
    rw [← hL] at hin cc hsh hle
    clear h hL
    go_enter Try.func98, Try.ntmps98
    go_wp2
    go_region
    all_goals
      go_wp2
      go_region
      all_goals
        go_wp2
        go_ret
        obtain ⟨o1, o2⟩ := seed_out (IntKind.u64.wrap (IntKind.u64.wrap ((s : Int) * 6364136223846793005)) + 1442695040888963407)
        exact ⟨_, rfl, o1, o2, (H.out.stepped (t + 1) (by omega) ((t : Int) + 1) (by omega) _ (wrap_u64 _)).1.drew.drew, grown_drew (grown_drew (H.out.stepped (t + 1) (by omega) ((t : Int) + 1) (by omega) _ (wrap_u64 _)).2)⟩

end Go.Proofs.Ytnggfcopndcppaa
