/-
  slices.Concat of words in arrays.
-/
import Derived.Test.YtegclfohkjemgaaKB
import Derived.Lib.AppendZeros
namespace Go.Proofs.Ytegclfohkjemgaa
open Go.RowKit
set_option linter.unusedVariables false
set_option linter.unusedSimpArgs false
set_option maxRecDepth 100000

/-- Some words, and others behind them. -/
def jn (t : Nat) (F G : Nat → List Int) (j : Nat) : List Int := if j < t then F j else G (j - t)
theorem wcs_congr {F G : Nat → List Int} : ∀ {n : Nat}, (∀ j, j < n → F j = G j) → wcs n F = wcs n G
  | 0, _ => rfl
  | n + 1, h => by rw [wcs_succ, wcs_succ, wcs_congr (n := n) (fun j hj => h j (by omega)), h n (by omega)]
theorem wcs_jn (t : Nat) (F G : Nat → List Int) : ∀ m : Nat, wcs (t + m) (jn t F G) = wcs t F ++ wcs m G
  | 0 => by rw [wcs_zero, List.append_nil]; exact wcs_congr fun j hj => by unfold jn; rw [if_pos (by omega)]
  | m + 1 => by
    rw [← Nat.add_assoc, wcs_succ, wcs_jn t F G m, wcs_succ, List.append_assoc]
    congr 4
    unfold jn
    rw [if_neg (by omega), show t + m - t = m by omega]

theorem wpList_growW {w : World} {ops : Array Oper} {rest : List Oper} {o : Oper} {a : Act} {Q : Exit → Act → World → Prop} (hgd : o.guard = none) (s x : Operand)
    (ho : o.op = .call { callee := .builtin .append, args := #[s, x], argTypes := #[71, 3] }) (n : Nat) (hn : 1 ≤ n) (hn2 : n ≤ 1000000)
    (hs : a.eval s = .slice none 0 0) (hx : a.eval x = .int .i64 (n : Int))
    (h : ∀ G w', G ≤ maxLen → n ≤ G → (∀ F, Ww w' w.heap.size (.slice (some ⟨w.heap.size, 0, none⟩) 0 G) 0 F) → Below w.heap.size w w' → wpList Try.prog ops Q rest (a.put o.dst (.slice (some ⟨w.heap.size, 0, none⟩) n G)) w') : wpList Try.prog ops Q (o :: rest) a w := by
  obtain ⟨i0, hi, hz0, hz1, hz2⟩ := info_parts infoW
  have hrun := fun ty => Lib.run_append_nil_zeros (P := Try.prog) w 71 3 ty 63 i0 _ .i64 .i64 Try.underlying71 Try.underlying3 hi hz0 n (by omega) (by omega) (by omega) (by rw [hz2]; omega)
  refine wpList_plain hgd fun K hK => ?_
  unfold Oper.wp
  simp [execOp, ho, resolve, invoke, builtin, hs, hx, hrun, Result.andThen]
  refine hK _ _ (h (grownCap w n 0 63) _ (grownCap_le_maxLen w n 0 _ (by unfold maxLen; omega)) (grownCap_ge w n 0 _) ?_ (((Below.refl w.heap.size w).drew).alloc (Nat.le_refl _) _))
  intro F
  refine ⟨rfl, .inr ⟨w.heap.size, _, _, rfl, Nat.le_refl _, heap_alloc_new w.drew _, Nat.zero_le _, grownCap_le_maxLen w n 0 _ (by unfold maxLen; omega), ?_, by simp [wcs_zero]⟩⟩
  rw [Array.size_append, size_zeroCells, size_zeroCells]
  have := grownCap_ge w n 0 63
  show n * 8 + (grownCap w n 0 63 - n) * 8 = grownCap w n 0 63 * 8
  omega

theorem growW_none (n : Nat) (w : World) (hn : 1 ≤ n) (hn2 : n ≤ 1000000) :
    Calls Try.prog 119 #[.slice none 0 0, .int .i64 (n : Int)] w fun e w' => ∃ u, e = .returned u ∧ (∀ F, Ww w' w.heap.size u 0 F) ∧ Below w.heap.size w w' := by
  go_enter Try.func119, Try.ntmps119
  go_wp2_with (at_builtin; refine wpList_growW rfl (.tmp 20) (.tmp 21) rfl n hn hn2 rfl rfl ?_; intro G w1 hG hGn hr hb; have R := Lib.hid hr; have B := Lib.hid hb; have hG63 : G ≤ 9223372036854775807 := (by unfold maxLen at hG; exact hG); clear hr hb hG)
  go_ret
  exact ⟨_, rfl, R.out, B.out⟩

theorem concatW_any (gs t m c1 c2 : Nat) (a1 a2 : Option Addr) (F G : Nat → List Int) (w : World) (hs0 : w.cell? ⟨gs, 0, none⟩ = some (.slice a1 t c1)) (hs1 : w.cell? ⟨gs, 1, none⟩ = some (.slice a2 m c2))
    (h1 : SrcW w (.slice a1 t c1) t F) (h2 : SrcW w (.slice a2 m c2) m G) (hF : ∀ j, (F j).length ≤ 8) (hG : ∀ j, (G j).length ≤ 8) (hpos : 1 ≤ t + m) (hlen : t + m ≤ 1000000) :
    Calls Try.prog 110 #[.slice (some ⟨gs, 0, none⟩) 2 2] w fun e w' => ∃ u, e = .returned u ∧ Ww w' w.heap.size u (t + m) (jn t F G) ∧ Below w.heap.size w w' := by
  have H1 := Lib.hid h1
  have H2 := Lib.hid h2
  have HF := Lib.hid hF
  have HG := Lib.hid hG
  have HJ := Lib.hid (wcs_jn t F G m)
  have HC0 := Lib.hid hs0
  have HC1 := Lib.hid hs1
  clear h1 h2 hs0 hs1 hF hG
  go_enter Try.func110, Try.ntmps110
  go_wp2
  go_loop [3, 11] (fun s i => ∃ j z : Nat, ((j = 0 ∧ z = 0) ∨ (j = 1 ∧ z = t) ∨ (j = 2 ∧ z = t + m)) ∧ i = .int .i64 (j : Int) ∧ s = .int .i64 (z : Int)) (fun _ i => 2 - (intOf i).toNat)
  case atStart => exact ⟨0, 0, .inl ⟨rfl, rfl⟩, rfl, rfl⟩
  case round =>
    obtain ⟨j, z, ⟨rfl, rfl⟩ | ⟨rfl, rfl⟩ | ⟨rfl, rfl⟩, rfl, rfl⟩ := hrel
    · have hcell := HC0.out
      go_wp2
      go_round
      case rel => exact ⟨1, t, .inr (.inl ⟨rfl, rfl⟩), by go_num, by go_num⟩
      case measure => simp [intOf]
    · have hcell := HC1.out
      go_wp2
      go_round
      case rel => exact ⟨2, z + m, .inr (.inr ⟨rfl, rfl⟩), by go_num, by go_num⟩
      case measure => simp [intOf]
    · go_wp2_with (go_at_call 119; refine (growW_none (t + m) _ hpos hlen).mono ?_; rintro e w1 ⟨u1, rfl, hr1, hb1⟩)
      have R1 := Lib.hid (hr1 F)
      have B1 := Lib.hid hb1
      clear hr1 hb1
      go_loopw [6, 27] (fun o i wr => ∃ (j : Nat), ((j = 0 ∧ Ww wr w.heap.size o 0 F) ∨ (j = 1 ∧ Ww wr w.heap.size o t F) ∨ (j = 2 ∧ Ww wr w.heap.size o (t + m) (jn t F G))) ∧ i = .int .i64 (j : Int) ∧ Below w.heap.size w wr) (fun _ i _ => 2 - (intOf i).toNat)
      case atStart => exact ⟨0, .inl ⟨rfl, R1.out⟩, rfl, B1.out⟩
      case round =>
        obtain ⟨j, hj, rfl, hb⟩ := hrel
        have B := Lib.hid hb
        have S1 := Lib.hid (H1.out.keep hb)
        have S2 := Lib.hid (H2.out.keep hb)
        have C0 := Lib.hid (Below.keeps_cell hb HC0.out)
        have C1 := Lib.hid (Below.keeps_cell hb HC1.out)
        clear hb
        obtain ⟨rfl, hr⟩ | ⟨rfl, hr⟩ | ⟨rfl, hr⟩ := hj
        · have R := Lib.hid hr
          obtain ⟨a6, c6, rfl⟩ := hr.lenOf
          clear hr
          have hcell := C0.out
          go_wp2_with (at_builtin; refine wpList_appW rfl (.tmp 31) (.tmp 32) rfl w.heap.size _ _ 0 t F F rfl rfl R.out S1.out HF.out (by omega) B.out.size ?_; intro v1 w1 hr1 hg1 hb1; have R3 := Lib.hid (show Ww w1 w.heap.size v1 t F by unfold Ww; rw [wcs_zero, List.nil_append, Nat.zero_add] at hr1; exact hr1); have B3 := Lib.hid (B.out.trans hb1); clear hr1 hg1 hb1)
          go_roundw
          case rel => exact ⟨1, .inr (.inl ⟨rfl, R3.out⟩), by go_num, B3.out⟩
          case measure => simp [intOf]
        · have R := Lib.hid hr
          obtain ⟨a6, c6, rfl⟩ := hr.lenOf
          clear hr
          have hcell := C1.out
          go_wp2_with (at_builtin; refine wpList_appW rfl (.tmp 31) (.tmp 32) rfl w.heap.size _ _ t m F G rfl rfl R.out S2.out HG.out (by omega) B.out.size ?_; intro v1 w1 hr1 hg1 hb1; have R3 := Lib.hid (show Ww w1 w.heap.size v1 (t + m) (jn t F G) by unfold Ww; rw [HJ.out]; exact hr1); have B3 := Lib.hid (B.out.trans hb1); clear hr1 hg1 hb1)
          go_roundw
          case rel => exact ⟨2, .inr (.inr ⟨rfl, R3.out⟩), by go_num, B3.out⟩
          case measure => simp [intOf]
        · have R := Lib.hid hr
          obtain ⟨a6, c6, rfl⟩ := hr.lenOf
          clear hr
          go_wp2
          go_ret
          exact ⟨_, rfl, R.out, B.out⟩

end Go.Proofs.Ytegclfohkjemgaa
