/-
  slices.Chunk's contract; what a round of UnsayWord's loop leaves.
-/
import Derived.Test.Ytmdjmbmkgboeaaa93
namespace Go.Proofs.Ytmdjmbmkgboeaaa
open Go.RowKit Go.Shelf
set_option linter.unusedVariables false
set_option linter.unusedSimpArgs false
set_option maxRecDepth 100000

theorem grownBy_drew (W : World) : W.grownBy W.drew none := ⟨rfl, rfl, rfl, Nat.le_refl _, fun _ _ _ => rfl⟩

theorem C2.kept {B : Nat} {sv : Value} {W W' : World} {row : Option Nat} (h : C2 B sv W) (hg : W.grownBy W' row) (hr : ∀ r, row = some r → ∃ o : Obj, W.heap[r]? = some o ∧ o.isCells = false) : C2 B sv W' :=
  ⟨cell_kept h.1 hg hr, cell_kept h.2 hg hr⟩
theorem C2.grown {B : Nat} {sv : Value} {W W' : World} {row : Option Nat} (h : C2 B sv W) (hB : B + 1 < W.heap.size) (hg : W.grownBy W' row) (h1 : some B ≠ row) (h2 : some (B + 1) ≠ row) : C2 B sv W' :=
  ⟨(World.cell?_of_block (hg.block B (by omega) h1)).trans h.1, (World.cell?_of_block (hg.block (B + 1) hB h2)).trans h.2⟩
theorem C2.below {B D : Nat} {sv : Value} {W W' : World} (h : C2 B sv W) (hb : Below D W W') (hD : B + 1 < D) : C2 B sv W' :=
  ⟨(hb.cell (p := ⟨B, 0, none⟩) (show B < D by omega)).trans h.1, (hb.cell (p := ⟨B + 1, 0, none⟩) hD).trans h.2⟩

theorem kc_t {n₀ B : Nat} {sv : Value} {X Y Z : World} (h : Kc n₀ B sv X Y) (k : Kc n₀ B sv Y Z) : Kc n₀ B sv X Z := ⟨h.1.trans k.1, fun c => k.2 (h.2 c)⟩
theorem kc_b {n₀ B : Nat} {sv : Value} {w : World} (hn : n₀ ≤ w.heap.size) (W : World) (l : Nat) (o o' : Obj) (hl : w.heap.size ≤ l) (h : W.heap[l]? = some o) (ho : o.isCells = false) (hw : o.isWalk = false) : Kc n₀ B sv W (W.putObj l o') :=
  ⟨belowK_b hn W l o o' hl h ho hw, fun c => c.kept (grownBy_putObj' W l o') (fun r e => by cases e; exact ⟨o, h, ho⟩)⟩

theorem chunk_stops (n B n₀ b off cap M : Nat) (hn : 1 ≤ n) (hM : M ≤ 200) (hcap : M + M ≤ cap) (hc2 : cap ≤ 9223372036854775807) (w : World) (hB : B + 1 < w.heap.size) (hC : C2 B (.slice (some ⟨b, off, none⟩) (M + M) cap) w) :
    SeqStopsK Fence.wide n Try.prog 96 #[.pointer (some ⟨B, 0, none⟩), .pointer (some ⟨B + 1, 0, none⟩)] (fun x : Fin M => #[.slice (some ⟨b, off + (x.1 + x.1), none⟩) 2 2]) (Kc n₀ B (.slice (some ⟨b, off, none⟩) (M + M) cap))
      (fun ys => ys = List.finRange M) (fun pre => ∃ k, k ≤ M ∧ pre = (List.finRange M).take k) M w := fun l J Jx W hW hJ hJx hY h0 =>
  chunk1_in n l B n₀ b off cap M hn hM hcap hc2 J Jx hY W (hC.below hW hB) (fun p W' h => hJ p W' _ none h (grownBy_drew W') (fun r e => by cases e)) h0

set_option maxHeartbeats 1000000 in
/-- .. at a list of no number: no round. -/
theorem chunk1_none (n l B cap : Nat) (a : Option Addr) (J : List (Fin 0) → World → Prop) (W : World) (hC : C2 B (.slice a 0 cap) W) (h0 : J [] W) :
    CallsIn Fence.wide n Try.prog 96 #[.func (.yield l) #[] #[], .pointer (some ⟨B, 0, none⟩), .pointer (some ⟨B + 1, 0, none⟩)] W fun e W' => (∃ v, e = .returned v) ∧ J [] W' := by
  have hs0 := hC.1
  have hn0 := hC.2
  refine callsIn_of_wp Try.func96 rfl trivial ?_ rfl
  simp only [Try.ntmps96, List.size_toArray, List.length_cons, List.length_nil, Nat.reduceAdd, Nat.reduceSub, Array.replicate_succ, Array.replicate_zero, List.push_toArray, List.append_toArray, List.nil_append, List.cons_append]
  gi_wp2
  gi_loopw [4] (fun i wr => i = .int .i64 0 ∧ J [] wr ∧ wr = W) (fun _ _ => 0)
  case atStart => exact ⟨rfl, h0, rfl⟩
  case round =>
    obtain ⟨rfl, hJs, rfl⟩ := hrel
    gi_wp2
    go_end0
    exact ⟨⟨_, rfl⟩, hJs⟩

theorem chunk_none (n B n₀ cap : Nat) (a : Option Addr) (w : World) (hB : B + 1 < w.heap.size) (hC : C2 B (.slice a 0 cap) w) (f : Fin 0 → Array Value) :
    SeqStopsK Fence.wide n Try.prog 96 #[.pointer (some ⟨B, 0, none⟩), .pointer (some ⟨B + 1, 0, none⟩)] f (Kc n₀ B (.slice a 0 cap))
      (fun ys => ys = List.finRange 0) (fun pre => ∃ k, k ≤ 0 ∧ pre = (List.finRange 0).take k) 0 w := fun l J Jx W hW hJ hJx hY h0 =>
  (chunk1_none n l B cap a J W (hC.below hW hB) h0).mono fun e W' ⟨he, hj⟩ => ⟨he, .inl ⟨_, rfl, hj⟩⟩

set_option maxHeartbeats 1000000 in
/-- slices.Chunk: the list and the pairs' length are boxed. -/
theorem chunk_in (n : Nat) (a : Option Addr) (len cap : Nat) (w : World) :
    CallsIn Fence.wide n Try.prog 59 #[.slice a len cap, .int .i64 2] w fun e w' => e = .returned (.func (.func 96) #[] #[.pointer (some ⟨w.heap.size, 0, none⟩), .pointer (some ⟨w.heap.size + 1, 0, none⟩)]) ∧ w' = (w.alloc (.cells #[.slice a len cap] 24)).alloc (.cells #[.int .i64 2] 3) := by
  refine callsIn_of_wp Try.func59 rfl trivial ?_ rfl
  simp only [Try.ntmps59, List.size_toArray, List.length_cons, List.length_nil, Nat.reduceAdd, Nat.reduceSub, Array.replicate_succ, Array.replicate_zero, List.push_toArray, List.append_toArray, List.nil_append, List.cons_append]
  gi_wp2
  go_ret
  exact ⟨rfl, rfl⟩

theorem below_drewS {W W' : World} (h : Below W.drew.heap.size W.drew W') : Below W.heap.size W W' := ⟨h.os, h.tape, h.output, h.size, fun k hk => h.block k hk⟩

/-- What a round leaves: the box, the numbers told, the iterator's cells. -/
theorem body_end {W W5 W6 : World} {L : Nat} {sv u u' : Value} {xs ys : List Int} (hbx : Boxed W L 24 u) (hC : C2 (L + 1) sv W) (hL : L + 3 ≤ W.heap.size) (hr5 : Rd W5 (L + 3) u xs)
    (hb5 : Below W.heap.size W W5) (hr6 : Rd W6 (L + 3) u' ys) (hg6 : W5.grownBy W6 u.ownBlock) :
    Boxed W6 L 24 u ∧ Boxed (W6.setCell ⟨L, 0, none⟩ u') L 24 u' ∧ Rd (W6.setCell ⟨L, 0, none⟩ u') (L + 3) u' ys ∧ C2 (L + 1) sv (W6.setCell ⟨L, 0, none⟩ u') ∧ KeepsFrom (L + 3) W (W6.setCell ⟨L, 0, none⟩ u') ∧ Below L W (W6.setCell ⟨L, 0, none⟩ u') := by
  have hs5 := hb5.size
  have hs6 := hg6.size
  have hne : ∀ j, j < L + 3 → some j ≠ u.ownBlock := fun j hj e => by have := (hr5.lt j e.symm).1; omega
  have hne' : ∀ j, j < L + 3 → some j ≠ u'.ownBlock := fun j hj e => by have := (hr6.lt j e.symm).1; omega
  have b5 : Boxed W5 L 24 u := (hb5.block L (by omega)).trans hbx
  have b6 : Boxed W6 L 24 u := b5.kept hg6 (hne L (by omega))
  refine ⟨b6, b6.set u', hr6.grown (grownBy_setCell' W6 L u') (.inr (hne' L (by omega)).symm), ?_, ?_, ?_⟩
  · exact ((hC.below hb5 (by omega)).grown (by omega) hg6 (hne _ (by omega)) (hne _ (by omega))).grown (by omega) (grownBy_setCell' W6 L u') (by simp) (by simp; omega)
  · refine ((⟨hs5, fun k o _ hk _ => (hb5.block k (Array.getElem?_eq_some_iff.1 hk).1).trans hk⟩ : KeepsFrom (L + 3) W W5).trans ?_).trans ((KeepsOthers.setCell _ _ _).from _)
    refine (KeepsOthers.of_grownBy hg6 fun j o ej hj => ?_).from _
    rcases hr5.2 with ⟨rfl, _⟩ | ⟨g, cap, cur, rfl, _, hgb, _⟩
    · simp [Value.ownBlock] at ej
    · obtain rfl : g = j := by simpa [Value.ownBlock] using ej
      rw [hgb] at hj; cases hj; rfl
  · refine ((hb5.mono (show L ≤ W.heap.size by omega)).grown hg6 (by omega) (fun k e => ?_)).setCell (p := ⟨L, 0, none⟩) (Nat.le_refl _) _
    have := (hr5.lt k e).1
    omega

end Go.Proofs.Ytmdjmbmkgboeaaa
