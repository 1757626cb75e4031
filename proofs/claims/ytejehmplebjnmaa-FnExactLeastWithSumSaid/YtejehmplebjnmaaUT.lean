/-
  The least number with a power sum: the program's search.
-/
import Derived.Test.YtejehmplebjnmaaUS
import Derived.Test.YtejehmplebjnmaaUO
import Derived.Deep.RegionLaw
import Derived.OwnWalk
import Derived.Deep.OwnRows
namespace Go.Proofs.Ytejehmplebjnmaa
open Go.RowKit
set_option linter.unusedVariables false
set_option linter.unusedSimpArgs false
set_option maxRecDepth 100000

theorem rd_made (w : World) (K : Nat) (hK : K ≤ 1000000) : Rd (w.alloc (.cells (madeCells #[.int .i64 0] K) 3)) w.heap.size (.slice (some ⟨w.heap.size, 0, none⟩) K K) (List.replicate K 0) := by
  refine ⟨by simp, .inr ⟨w.heap.size, K, _, by rw [List.length_replicate], Nat.le_refl _, heap_alloc_new w _, by rw [List.length_replicate]; exact Nat.le_refl _, by unfold maxLen; omega, by simp [madeCells], ?_⟩⟩
  rw [toList_madeCells_one, List.length_replicate, Nat.mul_one, List.take_of_length_le (by simp), List.map_replicate]

theorem vint {a b : Int} (h : a = b) : Value.int .i64 a = Value.int .i64 b := by rw [h]

/-- What is known up to the sum s, and at s what has been found so far. -/
def upTo (F : Nat → Nat) (s v j : Nat) : Nat := if j < s then F j else if j = s then v else 0
theorem upTo_lt {F : Nat → Nat} {s v j : Nat} (h : j < s) : upTo F s v j = F j := if_pos h
theorem upTo_at (F : Nat → Nat) (s v : Nat) : upTo F s v s = v := by unfold upTo; rw [if_neg (by omega), if_pos rfl]
theorem upTo_next {F : Nat → Nat} {s v : Nat} (h : v = F s) (j : Nat) : upTo F s v j = upTo F (s + 1) 0 j := by
  unfold upTo
  by_cases h1 : j < s
  · rw [if_pos h1, if_pos (by omega)]
  · rw [if_neg h1]
    by_cases h2 : j = s
    · rw [if_pos h2, if_pos (by omega), h, h2]
    · rw [if_neg h2, if_neg (by omega)]
      split <;> rfl
theorem upTo_first {F : Nat → Nat} (h : F 0 = 0) (j : Nat) : 0 = upTo F 1 0 j := by
  unfold upTo
  by_cases h1 : j < 1
  · rw [if_pos h1, show j = 0 from by omega, h]
  · rw [if_neg h1]; split <;> rfl
theorem upTo_set {F : Nat → Nat} {K s v u : Nat} (hs : s < K) : (lst K (upTo F s v)).set s (u : Int) = lst K (upTo F s u) :=
  lst_set hs (upTo_at F s u) (fun i _ hi => by unfold upTo; rw [if_neg hi, if_neg hi])

/-- The digit in front, none for 0. -/
def fz (b p s : Nat) : Nat := if s = 0 then 0 else fd b p s
/-- The number of digits found so far. -/
def cz (b p s n : Nat) : Nat := if n = 0 then 0 else mn (fwB b p) p s n
/-- The digit found so far. -/
def fc (b p s n : Nat) : Nat := fr (fwB b p) p s n

theorem fc_zero (b p s : Nat) : fc b p s 0 = 0 := rfl
theorem fc_pos {b : Nat} (p s : Nat) {n : Nat} (hb : 2 ≤ b) (hn : 1 ≤ n) : 1 ≤ fc b p s n := (fr_spec (fwB_le p hb) n hn).1
theorem cz_yes {b p s n : Nat} (hb : 2 ≤ b) (hs : s ≤ 2000) (h : n = 0 ∨ fw b p (s - (n + 1) ^ p) + 1 < cz b p s n) : cz b p s (n + 1) = fw b p (s - (n + 1) ^ p) + 1 ∧ fc b p s (n + 1) = n + 1 := by
  have e := fwB_eq (b := b) (p := p) (j := s - (n + 1) ^ p) (by omega)
  have hF := fwB_le p hb (s - (n + 1) ^ p)
  have e1 : cz b p s (n + 1) = min (mn (fwB b p) p s n) (1 + fwB b p (s - (n + 1) ^ p)) := if_neg (by omega)
  have e2 : fc b p s (n + 1) = if fc b p s n = 0 ∨ fwB b p (s - (n + 1) ^ p) + 1 < mn (fwB b p) p s n then n + 1 else fc b p s n := rfl
  rw [e1, e2]
  by_cases h0 : n = 0
  · subst h0
    have e3 : mn (fwB b p) p s 0 = 1000000 := rfl
    rw [e3, if_pos (.inl (fc_zero b p s)), e]
    rw [e] at hF
    exact ⟨by omega, rfl⟩
  · have e4 : cz b p s n = mn (fwB b p) p s n := if_neg h0
    rw [e4, ← e] at h
    have h' : fwB b p (s - (n + 1) ^ p) + 1 < mn (fwB b p) p s n := by omega
    rw [if_pos (.inr h'), ← e]
    exact ⟨by omega, rfl⟩
theorem cz_no {b p s n : Nat} (hb : 2 ≤ b) (hs : s ≤ 2000) (h0 : n ≠ 0) (h : ¬ fw b p (s - (n + 1) ^ p) + 1 < cz b p s n) : cz b p s (n + 1) = cz b p s n ∧ fc b p s (n + 1) = fc b p s n := by
  have e := fwB_eq (b := b) (p := p) (j := s - (n + 1) ^ p) (by omega)
  have e1 : cz b p s (n + 1) = min (mn (fwB b p) p s n) (1 + fwB b p (s - (n + 1) ^ p)) := if_neg (by omega)
  have e2 : fc b p s (n + 1) = if fc b p s n = 0 ∨ fwB b p (s - (n + 1) ^ p) + 1 < mn (fwB b p) p s n then n + 1 else fc b p s n := rfl
  have e4 : cz b p s n = mn (fwB b p) p s n := if_neg h0
  have hp := fc_pos p s hb (show 1 ≤ n by omega)
  rw [e1, e2]
  rw [e4, ← e] at h
  rw [e4, if_neg (by omega)]
  exact ⟨by omega, rfl⟩
theorem cz_end {b p s : Nat} (hb : 2 ≤ b) (hs : 1 ≤ s) (hs2 : s ≤ 2000) : cz b p s (dm b p s) = fw b p s ∧ fc b p s (dm b p s) = fz b p s := by
  have h1 := dm_pos (p := p) hb hs
  constructor
  · have e : cz b p s (dm b p s) = mn (fwB b p) p s (dm b p s) := if_neg (by omega)
    rw [e]
    obtain ⟨t, rfl⟩ : ∃ t, s = t + 1 := ⟨s - 1, by omega⟩
    rw [fw_succ]
    exact mn_congr (fun j hj => fwB_eq (by omega)) _
  · unfold fz
    rw [if_neg (by omega)]
    rfl
theorem cz_le {b : Nat} (p s : Nat) {n : Nat} (hb : 2 ≤ b) : cz b p s n ≤ 1000000 := by
  unfold cz
  split
  · omega
  · induction n with
    | zero => exact Nat.le_refl _
    | succ n ih => show min _ _ ≤ _
                   have : mn (fwB b p) p s n ≤ 1000000 := by
                     clear ih
                     induction n with
                     | zero => exact Nat.le_refl _
                     | succ n ih => show min _ _ ≤ _
                                    have := ih (by omega)
                                    omega
                   omega

set_option maxHeartbeats 4000000 in
theorem leastP_any (g c b p S : Nat) (w : World) (hT : Tp w g b p) (hb : 2 ≤ b) (hb' : b ≤ 16) (hp : 1 ≤ p) (hp' : p ≤ 8) (hS : S ≤ 2000) :
    Calls Try.prog 85 #[.slice (some ⟨g, 0, none⟩) b c, .int .i64 (S : Int)] w fun e w' => e = .returned (optRes (RLs b p S)) ∧ Below w.heap.size w w' := by
  have HT := Lib.hid hT
  obtain ⟨K, hK⟩ : ∃ K, K = S + 1 := ⟨_, rfl⟩
  have hKI : (S : Int) + 1 = (K : Int) := by omega
  have hKb : K ≤ 2001 := by omega
  have HK := Lib.hid hK
  have hwr : IntKind.i64.wrap (K : Int) = (K : Int) := IntWalk.i64_in _ (by omega)
  have HB0 := Lib.hid (show Below w.heap.size w w.drew from (Below.refl _ _).drew)
  clear hT hK
  have hmk := fun w0 : World => run_make_row' (P := Try.prog) 25 3 (.int .i64 0) 8 Try.underlying25 info3 rfl .i64 .i64 K (by omega) (by omega) w0
  obtain ⟨W2, hW2⟩ : ∃ W2, W2 = ((w.alloc (.cells (madeCells #[.int .i64 0] K) 3)).alloc (.cells (madeCells #[.int .i64 0] K) 3)).drew := ⟨_, rfl⟩
  have RA := Lib.hid (show Rd W2 w.heap.size (.slice (some ⟨w.heap.size, 0, none⟩) K K) (List.replicate K 0) by rw [hW2]; exact ((rd_made w K (by omega)).alloc (.cells (madeCells #[.int .i64 0] K) 3)).drew)
  have RB := Lib.hid (show Rd W2 w.heap.size (.slice (some ⟨w.heap.size + 1, 0, none⟩) K K) (List.replicate K 0) by
    rw [hW2]
    have h := (rd_made (w.alloc (.cells (madeCells #[.int .i64 0] K) 3)) K (by omega)).mono (show w.heap.size ≤ _ by simp)
    rw [World.size_alloc] at h
    exact h.drew)
  have HBa := Lib.hid (show Below w.heap.size w W2 by rw [hW2]; exact ((alloc_below w _).alloc (by simp) _).drew)
  have HW2 := Lib.hid hW2
  clear hW2
  have HZR := Lib.hid (show List.replicate K (0 : Int) = lst K (upTo (fw b p) 1 0) by rw [lst_rep]; exact lst_congr fun j _ => upTo_first (fw_zero b p) j)
  have HZZ := Lib.hid (show List.replicate K (0 : Int) = lst K (upTo (fz b p) 1 0) by rw [lst_rep]; exact lst_congr fun j _ => upTo_first rfl j)
  go_enter Try.func85, Try.ntmps85
  go_wp2
  go_region
  obtain ⟨gf, hgf⟩ : ∃ x, x = w.heap.size := ⟨_, rfl⟩
  obtain ⟨gr, hgr⟩ : ∃ x, x = w.heap.size + 1 := ⟨_, rfl⟩
  have hne : gf ≠ gr := by omega
  have RF := Lib.hid (show Rd W2 w.heap.size (.slice (some ⟨gf, 0, none⟩) K K) (List.replicate K 0) by rw [hgf]; exact RA.out)
  have RG := Lib.hid (show Rd W2 w.heap.size (.slice (some ⟨gr, 0, none⟩) K K) (List.replicate K 0) by rw [hgr]; exact RB.out)
  rw [← HW2.out, ← hgr, ← hgf]
  clear hgf hgr
  rotate_left
  obtain ⟨gr, hgr⟩ : ∃ x, x = w.heap.size := ⟨_, rfl⟩
  obtain ⟨gf, hgf⟩ : ∃ x, x = w.heap.size + 1 := ⟨_, rfl⟩
  have hne : gf ≠ gr := by omega
  have RF := Lib.hid (show Rd W2 w.heap.size (.slice (some ⟨gf, 0, none⟩) K K) (List.replicate K 0) by rw [hgf]; exact RB.out)
  have RG := Lib.hid (show Rd W2 w.heap.size (.slice (some ⟨gr, 0, none⟩) K K) (List.replicate K 0) by rw [hgr]; exact RA.out)
  rw [← HW2.out, ← hgf, ← hgr]
  clear hgf hgr
  all_goals
    rw [HZR.out] at RF
    rw [HZZ.out] at RG
    clear hmk hwr RA RB HW2 HZR HZZ
    go_wp2
    go_loopw [8] (fun i wr => ∃ s : Nat, 1 ≤ s ∧ s ≤ K ∧ i = .int .i64 (s : Int) ∧ Rd wr w.heap.size (.slice (some ⟨gf, 0, none⟩) K K) (lst K (upTo (fw b p) s 0)) ∧ Rd wr w.heap.size (.slice (some ⟨gr, 0, none⟩) K K) (lst K (upTo (fz b p) s 0)) ∧ Below w.heap.size w wr) (fun i _ => K - (intOf i).toNat)
    case atStart => exact ⟨1, by omega, by have := HK.out; omega, rfl, RF.out, RG.out, HBa.out⟩
    case round =>
      obtain ⟨s, s1, sK, rfl, hrf, hrg, hbl⟩ := hrel
      have HF := Lib.hid hrf
      have HG := Lib.hid hrg
      have HB := Lib.hid hbl
      clear hrf hrg hbl
      by_cases hlt : s ≤ S
      · obtain ⟨D, hD⟩ : ∃ D, D = dm b p s := ⟨_, rfl⟩
        have HD := Lib.hid (dm_spec (b := b) (p := p) (s := s) hb)
        have HCE := Lib.hid (cz_end (p := p) hb s1 (by omega))
        rw [← hD] at HD HCE
        have hDb : D < b := HD.out.1
        have HF0 := Lib.hid (show Rd wr w.heap.size (.slice (some ⟨gf, 0, none⟩) K K) (lst K (upTo (fw b p) s (cz b p s 0))) from HF.out)
        have HG0 := Lib.hid (show Rd wr w.heap.size (.slice (some ⟨gr, 0, none⟩) K K) (lst K (upTo (fz b p) s (fc b p s 0))) from HG.out)
        have hsK : s < K := by have := HK.out; omega
        clear HF HG hD
        go_wp2
        go_loopw [9] (fun i wq => ∃ n : Nat, n ≤ D ∧ i = .int .i64 ((n : Int) + 1) ∧ Rd wq w.heap.size (.slice (some ⟨gf, 0, none⟩) K K) (lst K (upTo (fw b p) s (cz b p s n))) ∧ Rd wq w.heap.size (.slice (some ⟨gr, 0, none⟩) K K) (lst K (upTo (fz b p) s (fc b p s n))) ∧ Below w.heap.size w wq) (fun i _ => D + 1 - (intOf i).toNat)
        case atStart => exact ⟨0, Nat.zero_le _, rfl, HF0.out, HG0.out, HB.out⟩
        case round =>
          obtain ⟨n, hn, rfl, hrf, hrg, hbl⟩ := hrel
          have HF := Lib.hid hrf
          have HG := Lib.hid hrg
          have HBq := Lib.hid hbl
          have hszq := hbl.size
          clear hrf hrg hbl
          obtain ⟨d, hd⟩ : ∃ d, d = n + 1 := ⟨_, rfl⟩
          have hdi : (n : Int) + 1 = (d : Int) := by omega
          rw [hdi]
          have HDn := Lib.hid hd
          clear hdi
          by_cases hlD : n < D
          · obtain ⟨q1, q2⟩ := HD.out.2.1 n hlD
            rw [← hd] at q1 q2
            have hct := (HT.out.keepB HBq.out HT.out.lt hszq).cell d q1
            obtain ⟨u, hu⟩ : ∃ u, u = d ^ p := ⟨_, rfl⟩
            rw [← hu] at hct q2
            obtain ⟨q, hq⟩ : ∃ q, q = s - u := ⟨_, rfl⟩
            have hqi : (s : Int) - (u : Int) = (q : Int) := by omega
            have hu1 : 1 ≤ u := by rw [hu]; exact Nat.pow_pos (by omega)
            have hqs : q < s := by omega
            have hqK : q < K := by omega
            have hcq := HF.out.at.2.2.2.2.1 q (by rw [lst_len]; exact hqK)
            rw [lst_at, upTo_lt hqs] at hcq
            have hcs := HF.out.at.2.2.2.2.1 s (by rw [lst_len]; exact hsK)
            rw [lst_at, upTo_at] at hcs
            have hfs := HF.out.at.2.2.2.2.2 s
            have hcr := HG.out.at.2.2.2.2.1 s (by rw [lst_len]; exact hsK)
            rw [lst_at, upTo_at] at hcr
            have hfr := HG.out.at.2.2.2.2.2 s
            have hgf := HF.out.at.2.1
            have hgr := HG.out.at.2.1
            have HCY := Lib.hid (fun h => cz_yes (b := b) (p := p) (s := s) (n := n) hb (by omega) h)
            have HCN := Lib.hid (fun h0 h => cz_no (b := b) (p := p) (s := s) (n := n) hb (by omega) h0 h)
            have HFP := Lib.hid (fun h => fc_pos p s (n := n) hb h)
            have hczb := cz_le p s (n := n) hb
            have hfwb := fw_le p hb q
            rw [← hd, ← hu, ← hq] at HCY HCN
            clear hd
            have hxD : fc b p s n ≤ D := by
              by_cases h0 : n = 0
              · subst h0; rw [fc_zero]; omega
              · have := (fr_spec (F := fwB b p) (p := p) (s := s) (fwB_le p hb) n (by omega)).2.1; exact Nat.le_trans this hn
            have HFZ := Lib.hid (fc_zero b p s)
            obtain ⟨v, hv⟩ : ∃ v, v = fw b p q := ⟨_, rfl⟩
            obtain ⟨y, hy⟩ : ∃ y, y = cz b p s n := ⟨_, rfl⟩
            obtain ⟨x, hx⟩ : ∃ x, x = fc b p s n := ⟨_, rfl⟩
            rw [← hv] at hcq HCY HCN hfwb
            rw [← hy] at hcs HCY HCN hczb HF
            rw [← hx] at hcr HCN HG HFP hxD
            have HXN := Lib.hid (show x = 0 ↔ n = 0 from ⟨fun h => by
              by_cases h0 : n = 0
              · exact h0
              · have := HFP.out (by omega); omega, fun h => by rw [hx, h, HFZ.out]⟩)
            clear hu hq hv hy hx
            by_cases hyes : n = 0 ∨ v + 1 < y
            · obtain ⟨e1, e2⟩ := HCY.out hyes
              have H1 := Lib.hid (two_rows HG.out HF.out (Ne.symm hne) s ((v + 1 : Nat) : Int))
              have HB1 := Lib.hid (HBq.out.setCell (p := ⟨gf, s, none⟩) hgf (.int .i64 ((v + 1 : Nat) : Int)))
              have H2 := Lib.hid (two_rows H1.out.2 H1.out.1 hne s (d : Int))
              have HB2 := Lib.hid (HB1.out.setCell (p := ⟨gr, s, none⟩) hgr (.int .i64 (d : Int)))
              rw [upTo_set hsK, upTo_set hsK] at H2
              have hcast : ((v + 1 : Nat) : Int) = (v : Int) + 1 := by push_cast; rfl
              rw [hcast] at H2 HB2
              have E1 := Lib.hid e1
              have E2 := Lib.hid e2
              have hne2 : gr ≠ gf := Ne.symm hne
              clear H1 HB1 e1 e2 hgf hgr hcast
              by_cases h0 : n = 0
              · have hx0 : x = 0 := HXN.out.2 h0
                have hz : ((x : Int) == 0) = true := beq_yes (by omega)
                clear hyes h0 hx0 hszq
                go_wp2
                go_roundw
                case rel => exact ⟨n + 1, by omega, vint (by have := HDn.out; omega), by rw [← HDn.out, E1.out]; exact H2.out.1, by rw [← HDn.out, E2.out]; exact H2.out.2, HB2.out⟩
                case measure => have := HDn.out; simp [intOf]; omega
              · have hx0 : x ≠ 0 := fun h => h0 (HXN.out.1 h)
                have hz : ((x : Int) == 0) = false := beq_no (by omega)
                have hvy : (v : Int) + 1 < (y : Int) := by omega
                clear hyes h0 hx0 hszq
                go_wp2
                go_roundw
                case rel => exact ⟨n + 1, by omega, vint (by have := HDn.out; omega), by rw [← HDn.out, E1.out]; exact H2.out.1, by rw [← HDn.out, E2.out]; exact H2.out.2, HB2.out⟩
                case measure => have := HDn.out; simp [intOf]; omega
            · have h0 : n ≠ 0 := fun h => hyes (.inl h)
              obtain ⟨e1, e2⟩ := HCN.out h0 (fun h => hyes (.inr h))
              have E1 := Lib.hid e1
              have E2 := Lib.hid e2
              have hx0 : x ≠ 0 := fun h => h0 (HXN.out.1 h)
              have hz : ((x : Int) == 0) = false := beq_no (by omega)
              have hvy : ¬ (v : Int) + 1 < (y : Int) := fun h => hyes (.inr (by omega))
              clear hyes h0 hx0 hszq e1 e2 hgf hgr
              go_wp2
              go_roundw
              case rel => exact ⟨n + 1, by omega, vint (by have := HDn.out; omega), by rw [← HDn.out, E1.out]; exact HF.out, by rw [← HDn.out, E2.out]; exact HG.out, HBq.out⟩
              case measure => have := HDn.out; simp [intOf]; omega
          · obtain rfl : n = D := by omega
            have hnot := HD.out.2.2
            rw [← hd] at hnot
            clear hd
            rw [HCE.out.1] at HF
            rw [HCE.out.2] at HG
            have HF2 := Lib.hid (show lst K (upTo (fw b p) s (fw b p s)) = lst K (upTo (fw b p) (s + 1) 0) from lst_congr fun j _ => upTo_next rfl j)
            have HG2 := Lib.hid (show lst K (upTo (fz b p) s (fz b p s)) = lst K (upTo (fz b p) (s + 1) 0) from lst_congr fun j _ => upTo_next rfl j)
            rw [HF2.out] at HF
            rw [HG2.out] at HG
            by_cases hdb : d < b
            · have hct := (HT.out.keepB HBq.out HT.out.lt hszq).cell d hdb
              obtain ⟨u, hu⟩ : ∃ u, u = d ^ p := ⟨_, rfl⟩
              rw [← hu] at hct hnot
              have hus : ¬ u ≤ s := fun h => hnot ⟨hdb, h⟩
              clear hnot hu hszq
              go_wp2
              go_roundw
              case rel => exact ⟨s + 1, by omega, by omega, vint (by omega), HF.out, HG.out, HBq.out⟩
              case measure => simp [intOf]; omega
            · clear hnot hszq
              go_wp2
              go_roundw
              case rel => exact ⟨s + 1, by omega, by omega, vint (by omega), HF.out, HG.out, HBq.out⟩
              case measure => simp [intOf]; omega
      · obtain rfl : s = K := by have := HK.out; omega
        obtain ⟨w3, rfl⟩ : ∃ w3 : World, w3 = wr := ⟨_, rfl⟩
        have HT3 := Lib.hid (HT.out.keepB HB.out HT.out.lt HB.out.size)
        clear HF RF RG
        go_wp2
        go_loopw [11, 12] (fun o i wq => ∃ (t m : Nat) (xs : List Int), t ≤ S ∧ fw b p t ≤ m ∧ i = .int .i64 (t : Int) ∧ xs.length + m = 2000 ∧ xs ++ dgL b p m t = dgL b p 2000 S ∧ Rd wq w3.heap.size o xs ∧ Below w3.heap.size w3 wq) (fun _ i _ => (intOf i).toNat)
        case atStart => exact ⟨S, 2000, [], Nat.le_refl _, by have := fw_le p hb S; omega, rfl, rfl, rfl, Rd.nil _ _, Below.refl _ _⟩
        case round =>
          obtain ⟨t, m, xs, htS, hfm, rfl, hxm, hxe, hr, hbl⟩ := hrel
          have HR := Lib.hid hr
          have HBq := Lib.hid hbl
          have HXE := Lib.hid hxe
          have HXM := Lib.hid hxm
          have hxl : xs.length ≤ 2000 := by omega
          have hsz := hbl.size
          clear hr hbl hxe hxm
          by_cases ht0 : 0 < t
          · have hm1 : 1 ≤ m := by have := fw_pos (b := b) (p := p) (s := t) ht0; omega
            obtain ⟨m', rfl⟩ : ∃ m', m = m' + 1 := ⟨m - 1, by omega⟩
            obtain ⟨f1, f2, f3, f4, f5⟩ := fd_spec (p := p) hb ht0 (by omega)
            have hfz : fz b p t = fd b p t := if_neg (by omega)
            have HDS := Lib.hid (dgL_step (b := b) (p := p) (n := m') ht0)
            have HCR := Lib.hid (show ∀ wq, Below w3.heap.size w3 wq → wq.cell? ⟨gr, t, none⟩ = some (.int .i64 ((fd b p t : Nat) : Int)) from fun wq hb => by
              rw [(HG.out.keep hb).at.2.2.2.2.1 t (by rw [lst_len]; omega), lst_at, upTo_lt (by omega), hfz])
            obtain ⟨d, hd⟩ : ∃ d, d = fd b p t := ⟨_, rfl⟩
            rw [← hd] at HCR f1 f2 f3 f4 HDS
            have HCT := Lib.hid (show ∀ wq, Below w3.heap.size w3 wq → wq.cell? ⟨g, d, none⟩ = some (.int .i64 ((d ^ p : Nat) : Int)) from fun wq hb => (HT3.out.keep hb).cell d f2)
            obtain ⟨u, hu⟩ : ∃ u, u = d ^ p := ⟨_, rfl⟩
            rw [← hu] at HCT f3 f4 HDS
            have hu1 : 1 ≤ u := by rw [hu]; exact Nat.pow_pos (by omega)
            have HF4 := Lib.hid (show fw b p (t - u) ≤ m' by omega)
            have HE2 := Lib.hid (show (xs ++ [(d : Int)]) ++ dgL b p m' (t - u) = dgL b p 2000 S by rw [List.append_assoc, ← HXE.out, HDS.out]; rfl)
            obtain ⟨q, hq⟩ : ∃ q, q = t - u := ⟨_, rfl⟩
            have hqi : (t : Int) - (u : Int) = (q : Int) := by omega
            rw [← hq] at HF4 HE2
            have hqt : q < t := by omega
            have hcr := HCR.out _ HBq.out
            clear f4 f5 hd hu hfz hq hfm f1
            go_wp2_with (at_builtin; refine wpList_appR rfl _ _ rfl w3.heap.size w3.heap.size _ _ xs [(d : Int)] rfl rfl (HR.out.alloc _) (Rd.litB _ _ _ (by omega)) (by simp; omega) (by simp; omega) ?_; intro v1 w4 hr1 hg1 hb1; have HR1 := Lib.hid hr1; have hB1 := (HBq.out.alloc (by omega) _).trans hb1; have HB1 := Lib.hid hB1; have hcr2 := HCR.out _ hB1; have hct2 := HCT.out _ hB1; clear hr1 hg1 hb1 hB1)
            go_roundw
            case rel => exact ⟨q, m', xs ++ [(d : Int)], by omega, HF4.out, vint (by omega), by have := HXM.out; simp; omega, HE2.out, HR1.out, HB1.out⟩
            case measure => simp [intOf]; omega
          · obtain rfl : t = 0 := by omega
            have HXX := Lib.hid (show xs = dgL b p 2000 S by rw [← HXE.out, dgL_zero, List.append_nil])
            have HPS := Lib.hid (show ∀ x ∈ xs, 1 ≤ x ∧ x ≤ (b : Int) - 1 by rw [HXX.out]; exact dgL_pos hb 2000 S hS)
            have HBz := Lib.hid (Below.step HB.out HB.out.size HBq.out)
            go_wp2_with (first | (go_at_call 88; refine (radixP_any b g c _ hb').mono ?_; rintro e w5 ⟨rfl, rfl⟩) | (go_at_call 102; refine (number_any _ xs _ _ _ HR.out (fun x hx => by have := HPS.out x hx; omega) (by omega) (by omega) (by omega)).mono ?_; rintro e w5 ⟨rfl, rfl⟩))
            go_ret2
            exact ⟨by unfold RLs; rw [← HXX.out]; rfl, HBz.out⟩

end Go.Proofs.Ytejehmplebjnmaa
