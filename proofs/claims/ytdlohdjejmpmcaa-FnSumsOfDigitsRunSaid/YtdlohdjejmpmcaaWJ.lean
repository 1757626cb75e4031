/-
  LeastSumPersistent: the program and the model (written by wip/tools/gen_wj.py).
-/
import Derived.Test.YtdlohdjejmpmcaaWI
import Derived.Test.YtdlohdjejmpmcaaA
import Derived.Test.YtdlohdjejmpmcaaK
namespace Go.Proofs.Ytdlohdjejmpmcaa
open Go.RowKit
set_option linter.unusedVariables false
set_option linter.unusedSimpArgs false
set_option maxRecDepth 100000

/-- What is known of the least numbers of a sum persistence. -/
def LspF (b : Int) : Prop := ∃ s t, lsp b 1 = some b ∧ lsp b 2 = some s ∧ lsp b 3 = some t ∧ 0 < s ∧ s ≤ 100 ∧ b / (b - 1) ≤ 2 ∧ s / (b - 1) ≤ 3

theorem lsp_at {b : Int} (hb : 2 ≤ b) (hb' : b ≤ 16) : ∀ k : Nat, 1 ≤ k → k ≤ 2 → ∃ s, lsp b k = some s ∧ 0 < s ∧ s ≤ 100 ∧ s / (b - 1) ≤ 3 := by
  obtain ⟨s, t, h1, h2, h3, s0, s1, q1, q2⟩ := lsp_ok b hb hb'
  intro k k1 k2
  by_cases hk : k = 1
  · subst hk; exact ⟨b, h1, by omega, by omega, by omega⟩
  · obtain rfl : k = 2 := by omega
    exact ⟨s, h2, s0, s1, q2⟩
theorem lsp_some {b : Int} (hb : 2 ≤ b) (hb' : b ≤ 16) : ∀ k : Nat, k ≤ 3 → ∃ s, lsp b k = some s := by
  obtain ⟨s, t, h1, h2, h3, s0, s1, q1, q2⟩ := lsp_ok b hb hb'
  intro k k2
  by_cases hk : k = 0
  · subst hk; exact ⟨0, rfl⟩
  · by_cases hk : k = 1
    · subst hk; exact ⟨_, h1⟩
    · by_cases hk : k = 2
      · subst hk; exact ⟨_, h2⟩
      · obtain rfl : k = 3 := by omega
        exact ⟨_, h3⟩
theorem lsp_next {b s : Int} {k : Nat} (h : lsp b (k + 1) = some s) : lsp b (k + 2) = lspS b s := by
  rw [lsp, h]; rfl

theorem leastSumPersistent_any (b : Int) (hb : 2 ≤ b) (hb' : b ≤ 16) : ∀ (k : Nat) (w : World), k ≤ 3 →
    Calls Try.prog 88 #[.int .i64 b, .int .i64 (k : Int)] w fun e w' => e = .returned (optRes (lsp b k)) ∧ Below w.heap.size w w' := by
  intro k
  induction k with
  | zero =>
    intro w hk
    go_enter Try.func88, Try.ntmps88
    go_wp2
    go_ret2
    exact ⟨rfl, Below.refl _ _⟩
  | succ k ih =>
    intro w hk
    by_cases h1 : k = 0
    · subst h1
      go_enter Try.func88, Try.ntmps88
      go_wp2
      go_ret2
      exact ⟨rfl, Below.refl _ _⟩
    · obtain ⟨j, rfl⟩ : ∃ j, k = j + 1 := ⟨k - 1, by omega⟩
      obtain ⟨s, hs, s0, s1, sq⟩ := lsp_at hb hb' (j + 1) (by omega) (by omega)
      have HS := Lib.hid hs
      have HN := Lib.hid (lsp_next hs)
      have HI := Lib.hid ih
      have e1 : (((j + 1 + 1 : Nat) : Int) == 0) = false := beq_no (by omega)
      have e2 : (((j + 1 + 1 : Nat) : Int) == 1) = false := beq_no (by omega)
      obtain ⟨K, hK⟩ : ∃ K : Int, K = ((j + 1 + 1 : Nat) : Int) := ⟨_, rfl⟩
      have HK := Lib.hid (show K - 1 = ((j + 1 : Nat) : Int) by omega)
      have K0 : 2 ≤ K := by omega
      have K1 : K ≤ 3 := by omega
      rw [HN.out]
      rw [← hK] at e1 e2 ⊢
      clear hs ih hK h1
      go_enter Try.func88, Try.ntmps88
      go_wp2_with fail
      rw [HK.out]
      refine (HI.out _ (by omega)).mono ?_
      rw [HS.out]
      rintro e w1 ⟨rfl, hbl⟩
      have HB := Lib.hid hbl
      clear hbl
      go_wp2_with (go_at_call 108; refine (leastWithDigitSum_any s b _ s0 s1 sq hb hb').mono ?_; rintro e w2 ⟨rfl, hbl⟩; have HB2 := Lib.hid (Below.step HB.out HB.out.size hbl); clear hbl)
      go_ret2
      exact ⟨rfl, HB2.out⟩

/-- What LeastSumPersistent answers. -/
def LSPok (k b : Int) : Prop := (0 ≤ k ∧ k ≤ 3) ∧ Bas b
instance (k b : Int) : Decidable (LSPok k b) := by unfold LSPok Bas; exact inferInstance
def askLSP (k b : Int) : Option Int := if LSPok k b then lsp b k.toNat else none

theorem impl_LeastSumPersistent (k b : Int) (w : World) :
    Calls Try.prog 39 #[.int .i64 k, .int .i64 b] w fun e w' => e = .returned (optRes (askLSP k b)) ∧ Below w.heap.size w w' := by
  by_cases hB : Bas b
  · have a2 : decide (Bas b) = true := decide_eq_true hB
    by_cases hk : 0 ≤ k ∧ k ≤ 3
    · obtain ⟨K, rfl⟩ : ∃ K : Nat, k = (K : Int) := ⟨k.toNat, by omega⟩
      have hR := Lib.hid (show askLSP K b = lsp b K by unfold askLSP; rw [if_pos ⟨hk, hB⟩, Int.toNat_natCast])
      obtain ⟨k0, k1⟩ := hk
      obtain ⟨b0, b1⟩ := hB
      go_enter Try.func39, Try.ntmps39
      go_wp2_with (first | (go_at_call 69; refine (isBase_any _ _).mono ?_; rintro e w1 ⟨rfl, rfl⟩) | (go_at_call 88; refine (leastSumPersistent_any b b0 b1 K _ (by omega)).mono ?_; rintro e w1 ⟨rfl, hbl⟩; have HB := Lib.hid hbl; clear hbl))
      go_ret2
      exact ⟨by rw [hR.out]; rfl, HB.out⟩
    · have hR := Lib.hid (show askLSP k b = none from if_neg (fun h => hk h.1))
      clear hB
      by_cases h0 : k < 0
      · clear hk
        go_enter Try.func39, Try.ntmps39
        go_wp2_with (go_at_call 69; refine (isBase_any _ _).mono ?_; rintro e w1 ⟨rfl, rfl⟩)
        go_ret2
        exact ⟨by rw [hR.out]; rfl, Below.refl _ _⟩
      · have h1 : 3 < k := by omega
        clear hk
        go_enter Try.func39, Try.ntmps39
        go_wp2_with (go_at_call 69; refine (isBase_any _ _).mono ?_; rintro e w1 ⟨rfl, rfl⟩)
        go_ret2
        exact ⟨by rw [hR.out]; rfl, Below.refl _ _⟩
  · have a2 : decide (Bas b) = false := decide_eq_false hB
    have hR := Lib.hid (show askLSP k b = none from if_neg (fun h => hB h.2))
    clear hB
    by_cases h0 : k < 0
    · go_enter Try.func39, Try.ntmps39
      go_wp2_with (go_at_call 69; refine (isBase_any _ _).mono ?_; rintro e w1 ⟨rfl, rfl⟩)
      go_ret2
      exact ⟨by rw [hR.out]; rfl, Below.refl _ _⟩
    · by_cases h1 : 3 < k
      · go_enter Try.func39, Try.ntmps39
        go_wp2_with (go_at_call 69; refine (isBase_any _ _).mono ?_; rintro e w1 ⟨rfl, rfl⟩)
        go_ret2
        exact ⟨by rw [hR.out]; rfl, Below.refl _ _⟩
      · go_enter Try.func39, Try.ntmps39
        go_wp2_with (go_at_call 69; refine (isBase_any _ _).mono ?_; rintro e w1 ⟨rfl, rfl⟩)
        go_ret2
        exact ⟨by rw [hR.out]; rfl, Below.refl _ _⟩

theorem lspS_mk0 {b s g : Int} {Q : Nat} (hg : b - 1 = g) (hr : s % g = 0) (hq : s / g = (Q : Int)) : lspS b s = numF b ([] ++ List.replicate Q g) 0 := by
  unfold lspS
  rw [hg, hr, hq, Int.toNat_natCast, numF_zero]; rfl

theorem spec_LeastSumPersistent (k b : Int) (w : World) :
    Calls Try.prog 41 #[.int .i64 k, .int .i64 b] w fun e w' => e = .returned (optRes (askLSP k b)) ∧ Below w.heap.size w w' := by
  by_cases hB : Bas b
  · have a2 : decide (Bas b) = true := decide_eq_true hB
    by_cases hk : 0 ≤ k ∧ k ≤ 3
    · obtain ⟨K, rfl⟩ : ∃ K : Nat, k = (K : Int) := ⟨k.toNat, by omega⟩
      have hR := Lib.hid (show askLSP K b = lsp b K by unfold askLSP; rw [if_pos ⟨hk, hB⟩, Int.toNat_natCast])
      obtain ⟨k0, k1⟩ := hk
      obtain ⟨hb, hb'⟩ := hB
      go_enter Try.func41, Try.ntmps41
      go_wp2_with (first | (go_at_call 75; refine (dgBase_any _ _).mono ?_; rintro e w1 ⟨rfl, rfl⟩) | (go_at_call 82; refine (l1In_yes _ _ _ _ k0 k1).mono ?_; rintro e w1 ⟨rfl, rfl⟩))
      go_loopw [6, 7] (fun x i wo => ∃ (j : Nat) (s : Int), j ≤ K ∧ x = .int .i64 s ∧ i = .int .i64 ((j : Int) + 1) ∧ Hid (lsp b j = some s) ∧ Below w.heap.size w wo) (fun _ i _ => (4 - intOf i).toNat)
      case atStart => exact ⟨0, 0, by omega, rfl, rfl, Lib.hid rfl, Below.refl _ _⟩
      case round =>
        obtain ⟨j, s, hj, rfl, rfl, HS, hbl⟩ := hrel
        obtain ⟨wo, hwo⟩ : ∃ wo : World, wo = wr := ⟨_, rfl⟩
        rw [← hwo] at hbl ⊢
        clear hwo
        have HB0 := Lib.hid hbl
        have hsz0 := HB0.out.size
        clear hbl
        by_cases hlt : j < K
        · by_cases hz : j = 0
          · subst hz
            go_wp2
            go_roundw
            case rel => exact ⟨1, b, by omega, rfl, by go_num, Lib.hid rfl, HB0.out⟩
            case measure => (simp [intOf]; try omega)
          · obtain ⟨j, rfl⟩ : ∃ i, j = i + 1 := ⟨j - 1, by omega⟩
            obtain ⟨s', hs', s0, s1, sq⟩ := lsp_at hb hb' (j + 1) (by omega) (by omega)
            obtain rfl : s = s' := by have := HS.out; rw [hs'] at this; injection this with this; exact this.symm
            obtain ⟨z, hz'⟩ := lsp_some hb hb' (j + 1 + 1) (by omega)
            have HZ := Lib.hid hz'
            have HN := Lib.hid (lsp_next hs')
            obtain ⟨g, hg⟩ : ∃ g, b - 1 = g := ⟨_, rfl⟩
            rw [hg] at sq
            have hq0 : 0 ≤ s / g := Int.ediv_nonneg (by omega) (by omega)
            obtain ⟨Q, hQ⟩ : ∃ Q : Nat, s / g = (Q : Int) := ⟨(s / g).toNat, by omega⟩
            obtain ⟨r, hr0⟩ : ∃ r, s % g = r := ⟨_, rfl⟩
            have r0 : 0 ≤ r := by rw [← hr0]; exact Int.emod_nonneg _ (by omega)
            have r1 : r < g := by rw [← hr0]; exact Int.emod_lt_of_pos _ (by omega)
            have g1 : 1 ≤ g := by omega
            have g2 : g ≤ 15 := by omega
            have hQ3 : Q ≤ 3 := by omega
            have hbe : ((((j + 1 : Nat) : Int) + 1) == 1) = false := beq_no (by omega)
            have hjc : ((j + 1 : Nat) : Int) = (j : Int) + 1 := by omega
            clear hs' hz' hz
            by_cases hrp : 0 < r
            · obtain ⟨pr, hpr⟩ : ∃ pr : List Int, pr = [r] := ⟨_, rfl⟩
              have HPR := Lib.hid hpr
              have hpl : pr.length ≤ 1 := by rw [hpr]; simp
              have HL := Lib.hid (show lspS b s = numF b (pr ++ List.replicate Q g) 0 by rw [hpr]; exact lspS_mk hg hr0 hQ)
              have HA := Lib.hid (show ∀ x ∈ pr ++ List.replicate Q g, 0 ≤ x ∧ x ≤ 1000000 by
                intro x hx
                rw [hpr, List.mem_append] at hx
                rcases hx with hx | hx
                · simp at hx; omega
                · have := (List.mem_replicate.1 hx).2; omega)
              clear hpr
              go_wp2_with (at_builtin; go_loud (refine wpList_appR rfl _ _ rfl w.heap.size w.heap.size _ _ [] [r] rfl rfl (Rd.nil _ _) (Rd.litB _ _ _ (by omega)) (by simp) (by simp; omega) ?_; intro v1 w1 hr1 hg1 hb2; have HR1 := Lib.hid (show Rd w1 w.heap.size v1 pr by rw [HPR.out]; exact hr1); have HB1 := Lib.hid ((HB0.out.alloc (by omega) _).trans hb2); clear hr1 hg1 hb2))

              try rw [hQ]
              go_loopw [8, 9] (fun o i wr => ∃ (t : Nat) (u : Value), u = o ∧ i = .int .i64 (t : Int) ∧ t ≤ Q ∧ Rd wr w.heap.size u (pr ++ List.replicate t g) ∧ Below w.heap.size w wr) (fun _ i _ => (4 - intOf i).toNat)
              case atStart => exact ⟨0, _, rfl, rfl, by omega, by rw [List.replicate_zero, List.append_nil]; exact HR1.out, HB1.out⟩
              case round =>
                obtain ⟨t, u, rfl, rfl, ht, hr, hbl⟩ := hrel
                have HR := Lib.hid hr
                have HB := Lib.hid hbl
                have hsz := HB.out.size
                clear hr hbl
                by_cases hlt : t < Q
                · go_wp2_with (at_builtin; go_loud (refine wpList_appR rfl _ _ rfl w.heap.size w.heap.size _ _ (pr ++ List.replicate t g) [g] rfl rfl (HR.out.alloc _) (Rd.litB _ _ _ (by omega)) (by simp; omega) (by simp; omega) ?_; intro v5 w5 hr1 hg1 hb2; have HR3 := Lib.hid hr1; have HB3 := Lib.hid ((HB.out.alloc (by omega) _).trans hb2); clear hr1 hg1 hb2))
                  go_roundw
                  case rel => exact ⟨t + 1, _, rfl, by go_num, by omega, by rw [List.replicate_succ', ← List.append_assoc]; exact HR3.out, HB3.out⟩
                  case measure => (simp [intOf]; try omega)
                · obtain rfl : t = Q := by omega
                  go_wp2_with (go_at_call 79; go_loud (refine (dgFrom_any _ _ _ _ _ HR.out HA.out hb hb' (by simp; omega)).mono ?_; rw [← HL.out, ← HN.out, HZ.out]; rintro e w3 ⟨rfl, rfl⟩))
                  go_roundw
                  case rel => exact ⟨j + 1 + 1, z, by omega, rfl, by go_num, HZ.out, HB.out⟩
                  case measure => (simp [intOf]; try omega)

            · obtain rfl : r = 0 := by omega
              obtain ⟨pr, hpr⟩ : ∃ pr : List Int, pr = [] := ⟨_, rfl⟩
              have HPR := Lib.hid hpr
              have hpl : pr.length ≤ 0 := by rw [hpr]; simp
              have HL := Lib.hid (show lspS b s = numF b (pr ++ List.replicate Q g) 0 by rw [hpr]; exact lspS_mk0 hg hr0 hQ)
              have HA := Lib.hid (show ∀ x ∈ pr ++ List.replicate Q g, 0 ≤ x ∧ x ≤ 1000000 by
                intro x hx
                rw [hpr, List.nil_append] at hx
                have := (List.mem_replicate.1 hx).2; omega)
              clear hpr
              go_wp2

              try rw [hQ]
              go_loopw [8, 9] (fun o i wr => ∃ (t : Nat) (u : Value), u = o ∧ i = .int .i64 (t : Int) ∧ t ≤ Q ∧ Rd wr w.heap.size u (pr ++ List.replicate t g) ∧ Below w.heap.size w wr) (fun _ i _ => (4 - intOf i).toNat)
              case atStart => exact ⟨0, _, rfl, rfl, by omega, by rw [List.replicate_zero, List.append_nil]; exact (show Rd _ _ _ pr by rw [HPR.out]; exact Rd.nil _ _), HB0.out⟩
              case round =>
                obtain ⟨t, u, rfl, rfl, ht, hr, hbl⟩ := hrel
                have HR := Lib.hid hr
                have HB := Lib.hid hbl
                have hsz := HB.out.size
                clear hr hbl
                by_cases hlt : t < Q
                · go_wp2_with (at_builtin; go_loud (refine wpList_appR rfl _ _ rfl w.heap.size w.heap.size _ _ (pr ++ List.replicate t g) [g] rfl rfl (HR.out.alloc _) (Rd.litB _ _ _ (by omega)) (by simp; omega) (by simp; omega) ?_; intro v5 w5 hr1 hg1 hb2; have HR3 := Lib.hid hr1; have HB3 := Lib.hid ((HB.out.alloc (by omega) _).trans hb2); clear hr1 hg1 hb2))
                  go_roundw
                  case rel => exact ⟨t + 1, _, rfl, by go_num, by omega, by rw [List.replicate_succ', ← List.append_assoc]; exact HR3.out, HB3.out⟩
                  case measure => (simp [intOf]; try omega)
                · obtain rfl : t = Q := by omega
                  go_wp2_with (go_at_call 79; go_loud (refine (dgFrom_any _ _ _ _ _ HR.out HA.out hb hb' (by simp; omega)).mono ?_; rw [← HL.out, ← HN.out, HZ.out]; rintro e w3 ⟨rfl, rfl⟩))
                  go_roundw
                  case rel => exact ⟨j + 1 + 1, z, by omega, rfl, by go_num, HZ.out, HB.out⟩
                  case measure => (simp [intOf]; try omega)

        · obtain rfl : j = K := by omega
          go_wp2
          go_ret2
          exact ⟨by rw [hR.out, HS.out]; rfl, HB0.out⟩
    · have hR := Lib.hid (show askLSP k b = none from if_neg (fun h => hk h.1))
      clear hB
      have hk' : k < 0 ∨ 3 < k := by omega
      clear hk
      go_enter Try.func41, Try.ntmps41
      go_wp2_with (first | (go_at_call 75; refine (dgBase_any _ _).mono ?_; rintro e w1 ⟨rfl, rfl⟩) | (go_at_call 82; refine (l1In_no _ _ _ _ hk').mono ?_; rintro e w1 ⟨rfl, rfl⟩))
      go_ret2
      exact ⟨by rw [hR.out]; rfl, Below.refl _ _⟩
  · have a2 : decide (Bas b) = false := decide_eq_false hB
    have hR := Lib.hid (show askLSP k b = none from if_neg (fun h => hB h.2))
    clear hB
    go_enter Try.func41, Try.ntmps41
    go_wp2_with (go_at_call 75; refine (dgBase_any _ _).mono ?_; rintro e w1 ⟨rfl, rfl⟩)
    go_ret2
    exact ⟨by rw [hR.out]; rfl, Below.refl _ _⟩

end Go.Proofs.Ytdlohdjejmpmcaa
