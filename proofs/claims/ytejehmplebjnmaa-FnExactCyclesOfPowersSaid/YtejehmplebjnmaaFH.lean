/-
  The program's cycles of powers: the graph of the sums, and its cycles.
-/
import Derived.Test.YtejehmplebjnmaaFG
import Derived.Test.YtejehmplebjnmaaUD
import Derived.Test.YtejehmplebjnmaaUF
namespace Go.Proofs.Ytejehmplebjnmaa
open Go.RowKit
set_option linter.unusedVariables false
set_option linter.unusedSimpArgs false
set_option maxRecDepth 100000

theorem gs_allB : (List.range 9).all (fun b => (List.range 4).all fun p => decide (gs (b + 2) (p + 1) ≤ 32805)) = true := by decide +kernel
theorem gs_bd {b p : Nat} (hb : 2 ≤ b) (hb' : b ≤ 10) (hp : 1 ≤ p) (hp' : p ≤ 4) : gs b p ≤ 32805 := by
  have h := gs_allB
  simp only [List.all_eq_true, List.mem_range, decide_eq_true_eq] at h
  have h2 := h (b - 2) (by omega) (p - 1) (by omega)
  rw [show b - 2 + 2 = b from by omega, show p - 1 + 1 = p from by omega] at h2
  exact h2

theorem gs_into {b p : Nat} (hb : 2 ≤ b) (hb' : b ≤ 16) (hp : 1 ≤ p) (hp' : p ≤ 8) : Into (ps b p) (gs b p + 1) := by
  intro x hx
  obtain ⟨f1, f2, f3, f4, f5, _⟩ := ff_spec hb hb' hp hp'
  have h1 : gs b p ≤ ff b p * (b - 1) ^ p := Nat.mul_le_mul_right _ (Nat.sub_le _ _)
  have h2 := ps_le p hb (ff b p - 1) x (by omega)
  exact Nat.lt_succ_of_le h2

theorem wpList_mkM {w : World} {ops : Array Oper} {rest : List Oper} {o : Oper} {a : Act} {Q : Exit → Act → World → Prop} (hgd : o.guard = none) (l c : Operand) (ho : o.op = Op.makeSlice 58 l c)
    (kl kc : IntKind) (L C : Int) (n : Nat) (hl : a.eval l = .int kl L) (hc : a.eval c = .int kc C) (hL : L = (n : Int)) (hC : C = (n : Int)) (hn : n ≤ 17179869184)
    (h : ∀ w', Rd w' w.heap.size (.slice (some ⟨w.heap.size, 0, none⟩) n n) (List.replicate n 0) → w.grownBy w' none → Below w.heap.size w w' → wpList Try.prog ops Q rest (a.put o.dst (.slice (some ⟨w.heap.size, 0, none⟩) n n)) w') :
    wpList Try.prog ops Q (o :: rest) a w := by
  obtain ⟨i0, hi, hz0, hz1, hz2⟩ := info_parts info3
  refine wpList_make_full w hgd l c 58 ho w.heap.size 3 i0 (.int .i64 0) 1 Try.underlying58 hi hz0 hz1 kl kc L C n hl hc hL hC (by rw [hz2]; omega) (by unfold maxLen; omega) (Nat.le_refl _) ?_
  intro w' h2 h3
  refine h w' ?_ h3 ((Below.refl _ _).grown h3 (Nat.le_refl _) (fun k hk => by cases hk))
  unfold Rd
  rw [List.length_replicate, ← toList_made]
  exact h2

/-- The first k numbers of the graph are set. -/
def gst (n : Nat) (f : Nat → Nat) (k : Nat) : List Int := lst k f ++ List.replicate (n - k) 0
theorem gst_zero (n : Nat) (f : Nat → Nat) : gst n f 0 = List.replicate n 0 := by simp [gst, lst]
theorem gst_end (n : Nat) (f : Nat → Nat) : gst n f n = lst n f := by simp [gst]
theorem gst_len {n k : Nat} (f : Nat → Nat) (h : k ≤ n) : (gst n f k).length = n := by simp [gst, lst_len]; omega
theorem gst_set {n k : Nat} (f : Nat → Nat) (h : k < n) : (gst n f k).set k ((f k : Nat) : Int) = gst n f (k + 1) := by
  unfold gst
  obtain ⟨m, hm⟩ : ∃ m, n - k = m + 1 := ⟨n - k - 1, by omega⟩
  rw [hm, show n - (k + 1) = m from by omega, List.replicate_succ, List.set_append_right _ _ (by rw [lst_len]; omega), lst_len, Nat.sub_self, lst_succ]
  simp

theorem graph_any (g c b p : Nat) (w : World) (hT : Tp w g b p) (hb : 2 ≤ b) (hb' : b ≤ 10) (hp : 1 ≤ p) (hp' : p ≤ 4) :
    Calls Try.prog 70 #[.slice (some ⟨g, 0, none⟩) b c] w fun e w' => ∃ gm cm, e = .returned (.slice (some ⟨gm, 0, none⟩) (gs b p + 1) cm) ∧ Mg w' gm (gs b p + 1) (ps b p) ∧ Below w.heap.size w w' := by
  have hgs := gs_bd hb hb' hp hp'
  have HIN := Lib.hid (gs_into (p := p) hb (show b ≤ 16 by omega) hp (show p ≤ 8 by omega))
  have HGR := Lib.hid (show ∀ w' : World, Tp w' g b p → Calls Try.prog 66 #[.slice (some ⟨g, 0, none⟩) b c] w' fun e w'' => e = .returned (.int .i64 ((gs b p : Nat) : Int)) ∧ Below w'.heap.size w' w'' from fun w' h => greatestP_any g c b p w' h hb (by omega) hp (by omega))
  have HSM := Lib.hid (show ∀ (n : Nat) (w' : World), n ≤ 40000 → Tp w' g b p → Calls Try.prog 58 #[.slice (some ⟨g, 0, none⟩) b c, .int .i64 (n : Int)] w' fun e w'' => e = .returned (.int .i64 ((ps b p n : Nat) : Int)) ∧ Below w'.heap.size w' w'' from fun n w' hn h => sumP_any g c b p n w' h hb (by omega) hp (by omega) (by omega))
  have HT := Lib.hid hT
  obtain ⟨m, hm⟩ : ∃ m, m = gs b p := ⟨_, rfl⟩
  obtain ⟨f, hf⟩ : ∃ f, f = ps b p := ⟨_, rfl⟩
  rw [← hm] at HGR HIN hgs ⊢
  rw [← hf] at HSM HIN ⊢
  obtain ⟨n, hn⟩ : ∃ n, n = m + 1 := ⟨_, rfl⟩
  have hni : (m : Int) + 1 = (n : Int) := by omega
  have hnb : n ≤ 40000 := by omega
  rw [← hn] at HIN ⊢
  have HN := Lib.hid hn
  clear hT hm hf hgs hn
  go_enter Try.func70, Try.ntmps70
  go_wp2_with fail
  refine (HGR.out _ HT.out).mono ?_
  rintro e w1 ⟨rfl, hb1⟩
  have HB1 := Lib.hid hb1
  have HT1 := Lib.hid (HT.out.keep hb1)
  clear hb1
  go_wp2_with (at_make; refine wpList_mkM rfl _ _ rfl .i64 .i64 _ _ n rfl rfl rfl rfl (by omega) ?_; intro w2 hr2 hg2 hb2; have R2 := Lib.hid (hr2.mono HB1.out.size); have T2 := Lib.hid (HT1.out.keep hb2); have HB2 := Lib.hid (Below.step HB1.out HB1.out.size hb2); have F2 := Lib.hid hb2; clear hr2 hg2 hb2)
  go_loopw [11] (fun i wr => ∃ k : Nat, k ≤ n ∧ i = .int .i64 (k : Int) ∧ Rd wr w.heap.size (.slice (some ⟨w1.heap.size, 0, none⟩) n n) (gst n f k) ∧ Below w1.heap.size w1 wr ∧ Below w.heap.size w wr) (fun i _ => n - (intOf i).toNat)
  case atStart => exact ⟨0, Nat.zero_le _, rfl, by rw [gst_zero]; exact R2.out, F2.out, HB2.out⟩
  case round =>
    obtain ⟨k, hk, rfl, hr, ht, hbl⟩ := hrel
    have HR := Lib.hid hr
    have HF := Lib.hid ht
    have HTr := Lib.hid (HT1.out.keep ht)
    have HB := Lib.hid hbl
    clear hr ht hbl
    by_cases hlt : k < n
    · obtain ⟨z, hz⟩ : ∃ z, z = f k := ⟨_, rfl⟩
      have HZ := Lib.hid hz
      have hzn : z < n := by rw [hz]; exact HIN.out k hlt
      clear hz
      go_wp2_with (go_at_call 58; refine (HSM.out k _ (by omega) HTr.out).mono ?_; rw [← HZ.out]; rintro e w3 ⟨rfl, hb3⟩; have R3 := Lib.hid (HR.out.keep hb3); have F3 := Lib.hid (Below.step HF.out HF.out.size hb3); have B3 := Lib.hid (Below.step HB.out HB.out.size hb3); obtain ⟨q0, hq0⟩ : ∃ q, w3.cell? ⟨w1.heap.size, k, none⟩ = some (.int .i64 q) := ⟨_, R3.out.at.2.2.2.2.1 k (by rw [gst_len f hk]; exact hlt)⟩; have hfz := R3.out.at.2.2.2.2.2 k; clear hb3)
      have RS := Lib.hid (R3.out.set k (z : Int))
      have BS := Lib.hid (B3.out.setCell (p := ⟨w1.heap.size, k, none⟩) HB1.out.size (.int .i64 (z : Int)))
      have FS := Lib.hid (F3.out.setCell (p := ⟨w1.heap.size, k, none⟩) (Nat.le_refl _) (.int .i64 (z : Int)))
      go_wp2
      go_roundw
      case rel => exact ⟨k + 1, by omega, by go_num, by rw [← gst_set f hlt, ← HZ.out]; exact RS.out.1, FS.out, BS.out⟩
      case measure => simp [intOf]; omega
    · obtain rfl : k = n := by omega
      have HRe := Lib.hid (show Rd wr w.heap.size (.slice (some ⟨w1.heap.size, 0, none⟩) k k) (lst k f) by rw [← gst_end]; exact HR.out)
      go_wp2
      go_ret
      exact ⟨_, _, rfl, ⟨HRe.out.at.2.2.1, fun j hj => by rw [HRe.out.at.2.2.2.2.1 j (by rw [lst_len]; exact hj), lst_at], HIN.out, by omega, hnb⟩, HB.out⟩

end Go.Proofs.Ytejehmplebjnmaa
