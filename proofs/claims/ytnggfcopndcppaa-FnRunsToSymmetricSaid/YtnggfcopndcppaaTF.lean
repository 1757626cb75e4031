/-
  The program's sums place by place.
-/
import Derived.Test.YtnggfcopndcppaaTE
namespace Go.Proofs.Ytnggfcopndcppaa
open Go.RowKit
set_option linter.unusedVariables false
set_option linter.unusedSimpArgs false
set_option maxRecDepth 100000

/-- A slice of integers made in a drawn region. -/
theorem upon_mkI {w : World} {o : Oper} {a : Act} {K : Act → World → Prop} {Q : Exit → Act → World → Prop} (n : Nat) (hn : n ≤ 1000000)
    (h : ∀ g w', w.heap.size ≤ g → g < w'.heap.size → Rd w' g (.slice (some ⟨g, 0, none⟩) n n) (List.replicate n 0) → Below w.heap.size w w' → K (a.put o.dst (.slice (some ⟨g, 0, none⟩) n n)) w') :
    Oper.upon Try.prog o a K Q ((Sem.run Try.prog (Instr.makeSlice 24 (.int .i64 (n : Int)) (.int .i64 (n : Int))) w).andThen fun a w' => Result.ok (Next.value a) w') := by
  obtain ⟨i0, hi, hz0, hz1, hz2⟩ := info_parts info3
  obtain ⟨w', hr, h2, h3⟩ := run_make_full (P := Try.prog) w w.heap.size 24 3 i0 (.int .i64 0) 1 Try.underlying24 hi hz0 hz1 .i64 .i64 n (by rw [hz2]; omega) (by unfold maxLen; omega) (Nat.le_refl _)
  rw [hr]
  have h4 : Rd w' w.heap.size (.slice (some ⟨w.heap.size, 0, none⟩) n n) (List.replicate n 0) := by
    unfold Rd
    rw [List.length_replicate, ← toList_made]
    exact h2
  exact h w.heap.size w' (Nat.le_refl _) (World.ownsRow.lt h2 _ rfl).2 h4 ((Below.refl _ _).grown h3 (Nat.le_refl _) (fun k hk => by cases hk))

theorem add_any (g cap : Nat) (xs : List Int) (b f q : Int) (B : Nat) (w : World) (h : Rd w B (.slice (some ⟨g, 0, none⟩) xs.length cap) xs) (hd : Dg b xs) (hf : f = 1 ∨ f = -1) (hq : q = 1 ∨ q = -1) (hfq : f = 1 ∨ q = 1) :
    Calls Try.prog 92 #[lng (.slice (some ⟨g, 0, none⟩) xs.length cap) b, .int .i64 f, .int .i64 q] w fun e w' => ∃ g1 g2, e = .returned (.tuple #[.slice (some ⟨g1, 0, none⟩) xs.length xs.length, .slice (some ⟨g2, 0, none⟩) xs.length xs.length]) ∧
      Rd w' w.heap.size (.slice (some ⟨g1, 0, none⟩) xs.length xs.length) (dgA b (smA f q xs) 0).reverse ∧ Rd w' w.heap.size (.slice (some ⟨g2, 0, none⟩) xs.length xs.length) (cyA b (smA f q xs) 0) ∧ Below w.heap.size w w' := by
  have H := Lib.hid h
  have HD := Lib.hid hd
  have h1 := hd.l1
  have h40 := hd.l40
  have hb2 := hd.b2
  have hb16 := hd.b16
  have HF := Lib.hid hf
  have HQ := Lib.hid hq
  have HFQ := Lib.hid hfq
  have hg := h.at.2.2.1
  clear h hd hf hq hfq
  obtain ⟨w1, hw1⟩ : ∃ w1, w1 = w.alloc (.cells #[.slice (some ⟨g, 0, none⟩) xs.length cap, .int .i64 b] 56) := ⟨_, rfl⟩
  have HAL := Lib.hid (show Below w.heap.size w w1 by rw [hw1]; exact alloc_below w _)
  have HC0 := Lib.hid (show w1.cell? ⟨w.heap.size, 0, none⟩ = some (.slice (some ⟨g, 0, none⟩) xs.length cap) by rw [hw1]; simp [go_sem])
  have HC1 := Lib.hid (show w1.cell? ⟨w.heap.size, 1, none⟩ = some (.int .i64 b) by rw [hw1]; simp [go_sem])
  have HSZ := Lib.hid (show w1.heap.size = w.heap.size + 1 by rw [hw1]; simp)
  have H1 := Lib.hid (H.out.keep HAL.out)
  go_enter Try.func92, Try.ntmps92
  go_wp2
  rw [← hw1]
  clear hw1
  have B1 := Lib.hid (Below.refl w1.drew.heap.size w1.drew)
  have hwr : IntKind.i64.wrap (xs.length : Int) = (xs.length : Int) := IntWalk.i64_in _ (by omega)
  go_region_held3 (fun w' => True) (trivial) (first
    | (have RZ := RA; clear RZ; refine upon_mkI xs.length (by omega) ?_; intro gb w3 hge hlt hr hbx; have RA3 := Lib.hid (RA.out.keep hbx); have RB3 := Lib.hid hr; have HW3 := Lib.hid (Nat.le_trans B2.out.size hge); have HNE := Lib.hid (show ga ≠ gb by have := HW2.out; omega); have B3 := Lib.hid (Below.step B2.out B2.out.size hbx); clear hr hbx hge hlt)
    | (refine upon_mkI xs.length (by omega) ?_; intro ga w2 hge hlt hr hbx; have RA := Lib.hid hr; have HW1 := Lib.hid (Nat.le_trans B1.out.size hge); have HW2 := Lib.hid hlt; have B2 := Lib.hid (Below.step B1.out B1.out.size hbx); clear hr hbx hge hlt))
  · clear hwr
    have HK := Lib.hid (show Below w1.heap.size w1 w3 from ((Below.refl w1.heap.size w1).drew).trans B3.out)
    have c0 := Below.keeps_cell HK.out HC0.out
    go_wp2
    go_loopw [11, 26] (fun c i wr => ∃ k : Nat, k ≤ xs.length ∧ i = .int .i64 (k : Int) ∧ c = .int .i64 (coA b ((smA f q xs).take k) 0) ∧ Rd wr ga (.slice (some ⟨ga, 0, none⟩) xs.length xs.length) (List.replicate (xs.length - k) 0 ++ (dgA b ((smA f q xs).take k) 0).reverse) ∧
      Rd wr gb (.slice (some ⟨gb, 0, none⟩) xs.length xs.length) (cyA b ((smA f q xs).take k) 0 ++ List.replicate (xs.length - k) 0) ∧ Below w1.heap.size w1 wr) (fun _ i _ => xs.length - (intOf i).toNat)
    case atStart => exact ⟨0, Nat.zero_le _, rfl, rfl, by simpa [dgA] using RA3.out, by simpa [cyA] using RB3.out, HK.out⟩
    case round =>
      obtain ⟨k, hk, rfl, rfl, hrd, hrc, hb⟩ := hrel
      have HRD := Lib.hid hrd
      have HRC := Lib.hid hrc
      have HB := Lib.hid hb
      clear hrd hrc hb c0
      obtain ⟨cc, hcc⟩ : ∃ cc, cc = coA b ((smA f q xs).take k) 0 := ⟨_, rfl⟩
      have hin : InS b ((smA f q xs).take k) := fun s hs => smA_in b f q xs HD.out.all HF.out HQ.out HFQ.out s (List.mem_of_mem_take hs)
      obtain ⟨cc1, cc2⟩ := coA_bd b hb2 _ 0 hin (by omega) (by omega)
      rw [← hcc] at cc1 cc2
      have HCC := Lib.hid hcc
      rw [← hcc]
      clear hcc hin
      by_cases hlt : k < xs.length
      · have d0 := Below.keeps_cell HB.out HC0.out
        have d1 := Below.keeps_cell HB.out HC1.out
        have hA := (H1.out.keep HB.out).at.2.2.2.2.1
        have ha1 := hA (xs.length - 1 - k) (by omega)
        have ha2 := hA k hlt
        obtain ⟨x1, hx1⟩ : ∃ x1, x1 = xs[xs.length - 1 - k]'(by omega) := ⟨_, rfl⟩
        obtain ⟨x2, hx2⟩ : ∃ x2, x2 = xs[k] := ⟨_, rfl⟩
        rw [← hx1] at ha1
        rw [← hx2] at ha2
        have b1 := HD.out.all x1 (by rw [hx1]; exact List.getElem_mem _)
        have b2 := HD.out.all x2 (by rw [hx2]; exact List.getElem_mem _)
        obtain ⟨m1, m2, m3, m4, m5, m6⟩ : -15 ≤ f * x1 ∧ f * x1 ≤ 15 ∧ -15 ≤ q * x2 ∧ q * x2 ≤ 15 ∧ 1 - b ≤ f * x1 + q * x2 ∧ f * x1 + q * x2 ≤ 2 * b - 2 := by
          rcases HF.out with rfl | rfl <;> rcases HQ.out with rfl | rfl <;> (try have := HFQ.out) <;> omega
        have HX1 := Lib.hid hx1
        have HX2 := Lib.hid hx2
        have hg1 : wrap64 (f * x1) = f * x1 := IntWalk.wrap64_in _ (by omega)
        have hg2 : wrap64 (q * x2) = q * x2 := IntWalk.wrap64_in _ (by omega)
        have hg3 : wrap64 (f * x1 + q * x2) = f * x1 + q * x2 := IntWalk.wrap64_in _ (by omega)
        have hg4 : wrap64 (f * x1 + q * x2 + cc) = f * x1 + q * x2 + cc := IntWalk.wrap64_in _ (by omega)
        clear hx1 hx2 b1 b2 hA
        have hw1 : IntKind.i64.wrap ((xs.length : Int) - 1 - (k : Int)) = ((xs.length - 1 - k : Nat) : Int) := by rw [IntWalk.i64_in _ (by omega)]; omega
        obtain ⟨p, hp⟩ : ∃ p, p = f * x1 + q * x2 + cc := ⟨_, rfl⟩
        have hq1 : 0 ≤ p + b := by omega
        have hdv : (p + b) / b - 1 = p / b := div_up b p hb2
        have hdb := divA b (f * x1 + q * x2) cc hb2 m5 m6 cc1 cc2
        rw [← hp] at hdb
        have hmd : p - p / b * b = p % b := mod_up b p
        have hpb : p / b = -1 ∨ p / b = 0 ∨ p / b = 1 := by omega
        have e1 : wrap64 ((p + b) / b - 1) = p / b := by rw [hdv]; exact IntWalk.wrap64_in _ (by omega)
        have e2 : wrap64 (p / b * b) = p / b * b := IntWalk.wrap64_in _ (by rcases hpb with h | h | h <;> rw [h] <;> omega)
        have e3 : wrap64 (p - wrap64 (wrap64 ((p + b) / b - 1) * b)) = p % b := by
          rw [e1, e2, hmd]
          have := Int.emod_nonneg p (show b ≠ 0 by omega)
          have := Int.emod_lt_of_pos p (show 0 < b by omega)
          exact IntWalk.wrap64_in _ (by omega)
        rw [hp] at e1 e3 hq1
        have E1 := Lib.hid e1
        have E3 := Lib.hid e3
        have HSN := Lib.hid (show (smA f q xs).take (k + 1) = (smA f q xs).take k ++ [f * x1 + q * x2] by
          rw [take_snoc' _ k (by rw [smA_len]; exact hlt), smA_at f q xs k hlt, HX1.out, HX2.out])
        clear hp hdv hdb hmd hpb e1 e2 e3
        have hsl := Lib.hid (show (List.replicate (xs.length - k) (0:Int) ++ (dgA b ((smA f q xs).take k) 0).reverse).length = xs.length by simp [dgA_len, smA_len]; omega)
        have hsl2 := Lib.hid (show (cyA b ((smA f q xs).take k) 0 ++ List.replicate (xs.length - k) (0:Int)).length = xs.length by simp [cyA_len, smA_len]; omega)
        obtain ⟨z1, hz1⟩ : ∃ z, wr.cell? ⟨ga, xs.length - 1 - k, none⟩ = some (.int .i64 z) := ⟨_, HRD.out.at.2.2.2.2.1 _ (by rw [hsl.out]; omega)⟩
        obtain ⟨z2, hz2⟩ : ∃ z, wr.cell? ⟨gb, k, none⟩ = some (.int .i64 z) := ⟨_, HRC.out.at.2.2.2.2.1 _ (by rw [hsl2.out]; omega)⟩
        have hfa := HRD.out.at.2.2.2.2.2 (xs.length - 1 - k)
        have hfb := HRC.out.at.2.2.2.2.2 k
        have hne := HNE.out
        go_wp2
        go_region
        go_wp2
        rw [E3.out, E1.out]
        have hds : (dgA b ((smA f q xs).take k) 0).length = k := by rw [dgA_len, List.length_take, smA_len]; omega
        have hcs : (cyA b ((smA f q xs).take k) 0).length = k := by rw [cyA_len, List.length_take, smA_len]; omega
        have r1 := HRD.out.set (xs.length - 1 - k) ((f * x1 + q * x2 + cc) % b)
        rw [backfill _ k _ _ hds hlt] at r1
        have r2 := HRC.out.grown r1.2 (.inr (fun e => HNE.out (by simp [Value.ownBlock] at e; exact e.symm)))
        have r3 := r2.set k ((f * x1 + q * x2 + cc) / b)
        rw [frontfill _ k _ _ hcs hlt] at r3
        have r4 := r1.1.grown r3.2 (.inr (fun e => HNE.out (by simp [Value.ownBlock] at e; exact e)))
        refine ⟨⟨k + 1, by omega, by go_num, ?_, ?_, ?_, ?_⟩, by simp [intOf]; omega⟩
        · rw [HSN.out, coA_snoc, ← HCC.out]
        · rw [HSN.out, dgA_snoc, ← HCC.out]
          exact r4.drew
        · rw [HSN.out, cyA_snoc, ← HCC.out]
          exact r3.1.drew
        · exact ((HB.out.setCell (by have := HW1.out; exact this) _).setCell (by have := HW3.out; exact this) _).drew
      · obtain rfl : k = xs.length := by omega
        go_wp2
        go_ret2
        have hall : (smA f q xs).take xs.length = smA f q xs := List.take_of_length_le (by rw [smA_len]; exact Nat.le_refl _)
        have r1 := HRD.out
        have r2 := HRC.out
        rw [hall, Nat.sub_self] at r1 r2
        have hz := HSZ.out
        exact ⟨ga, gb, rfl, by simpa using r1.mono (by have := HW1.out; simp at this; omega), by simpa using r2.mono (by have := HW3.out; simp at this; omega), Below.step HAL.out HAL.out.size HB.out⟩
  · clear hwr
    have HNE := Lib.hid (Ne.symm HNE.out)
    have HK := Lib.hid (show Below w1.heap.size w1 w3 from ((Below.refl w1.heap.size w1).drew).trans B3.out)
    have c0 := Below.keeps_cell HK.out HC0.out
    go_wp2
    go_loopw [11, 26] (fun c i wr => ∃ k : Nat, k ≤ xs.length ∧ i = .int .i64 (k : Int) ∧ c = .int .i64 (coA b ((smA f q xs).take k) 0) ∧ Rd wr gb (.slice (some ⟨gb, 0, none⟩) xs.length xs.length) (List.replicate (xs.length - k) 0 ++ (dgA b ((smA f q xs).take k) 0).reverse) ∧
      Rd wr ga (.slice (some ⟨ga, 0, none⟩) xs.length xs.length) (cyA b ((smA f q xs).take k) 0 ++ List.replicate (xs.length - k) 0) ∧ Below w1.heap.size w1 wr) (fun _ i _ => xs.length - (intOf i).toNat)
    case atStart => exact ⟨0, Nat.zero_le _, rfl, rfl, by simpa [dgA] using RB3.out, by simpa [cyA] using RA3.out, HK.out⟩
    case round =>
      obtain ⟨k, hk, rfl, rfl, hrd, hrc, hb⟩ := hrel
      have HRD := Lib.hid hrd
      have HRC := Lib.hid hrc
      have HB := Lib.hid hb
      clear hrd hrc hb c0
      obtain ⟨cc, hcc⟩ : ∃ cc, cc = coA b ((smA f q xs).take k) 0 := ⟨_, rfl⟩
      have hin : InS b ((smA f q xs).take k) := fun s hs => smA_in b f q xs HD.out.all HF.out HQ.out HFQ.out s (List.mem_of_mem_take hs)
      obtain ⟨cc1, cc2⟩ := coA_bd b hb2 _ 0 hin (by omega) (by omega)
      rw [← hcc] at cc1 cc2
      have HCC := Lib.hid hcc
      rw [← hcc]
      clear hcc hin
      by_cases hlt : k < xs.length
      · have d0 := Below.keeps_cell HB.out HC0.out
        have d1 := Below.keeps_cell HB.out HC1.out
        have hA := (H1.out.keep HB.out).at.2.2.2.2.1
        have ha1 := hA (xs.length - 1 - k) (by omega)
        have ha2 := hA k hlt
        obtain ⟨x1, hx1⟩ : ∃ x1, x1 = xs[xs.length - 1 - k]'(by omega) := ⟨_, rfl⟩
        obtain ⟨x2, hx2⟩ : ∃ x2, x2 = xs[k] := ⟨_, rfl⟩
        rw [← hx1] at ha1
        rw [← hx2] at ha2
        have b1 := HD.out.all x1 (by rw [hx1]; exact List.getElem_mem _)
        have b2 := HD.out.all x2 (by rw [hx2]; exact List.getElem_mem _)
        obtain ⟨m1, m2, m3, m4, m5, m6⟩ : -15 ≤ f * x1 ∧ f * x1 ≤ 15 ∧ -15 ≤ q * x2 ∧ q * x2 ≤ 15 ∧ 1 - b ≤ f * x1 + q * x2 ∧ f * x1 + q * x2 ≤ 2 * b - 2 := by
          rcases HF.out with rfl | rfl <;> rcases HQ.out with rfl | rfl <;> (try have := HFQ.out) <;> omega
        have HX1 := Lib.hid hx1
        have HX2 := Lib.hid hx2
        have hg1 : wrap64 (f * x1) = f * x1 := IntWalk.wrap64_in _ (by omega)
        have hg2 : wrap64 (q * x2) = q * x2 := IntWalk.wrap64_in _ (by omega)
        have hg3 : wrap64 (f * x1 + q * x2) = f * x1 + q * x2 := IntWalk.wrap64_in _ (by omega)
        have hg4 : wrap64 (f * x1 + q * x2 + cc) = f * x1 + q * x2 + cc := IntWalk.wrap64_in _ (by omega)
        clear hx1 hx2 b1 b2 hA
        have hw1 : IntKind.i64.wrap ((xs.length : Int) - 1 - (k : Int)) = ((xs.length - 1 - k : Nat) : Int) := by rw [IntWalk.i64_in _ (by omega)]; omega
        obtain ⟨p, hp⟩ : ∃ p, p = f * x1 + q * x2 + cc := ⟨_, rfl⟩
        have hq1 : 0 ≤ p + b := by omega
        have hdv : (p + b) / b - 1 = p / b := div_up b p hb2
        have hdb := divA b (f * x1 + q * x2) cc hb2 m5 m6 cc1 cc2
        rw [← hp] at hdb
        have hmd : p - p / b * b = p % b := mod_up b p
        have hpb : p / b = -1 ∨ p / b = 0 ∨ p / b = 1 := by omega
        have e1 : wrap64 ((p + b) / b - 1) = p / b := by rw [hdv]; exact IntWalk.wrap64_in _ (by omega)
        have e2 : wrap64 (p / b * b) = p / b * b := IntWalk.wrap64_in _ (by rcases hpb with h | h | h <;> rw [h] <;> omega)
        have e3 : wrap64 (p - wrap64 (wrap64 ((p + b) / b - 1) * b)) = p % b := by
          rw [e1, e2, hmd]
          have := Int.emod_nonneg p (show b ≠ 0 by omega)
          have := Int.emod_lt_of_pos p (show 0 < b by omega)
          exact IntWalk.wrap64_in _ (by omega)
        rw [hp] at e1 e3 hq1
        have E1 := Lib.hid e1
        have E3 := Lib.hid e3
        have HSN := Lib.hid (show (smA f q xs).take (k + 1) = (smA f q xs).take k ++ [f * x1 + q * x2] by
          rw [take_snoc' _ k (by rw [smA_len]; exact hlt), smA_at f q xs k hlt, HX1.out, HX2.out])
        clear hp hdv hdb hmd hpb e1 e2 e3
        have hsl := Lib.hid (show (List.replicate (xs.length - k) (0:Int) ++ (dgA b ((smA f q xs).take k) 0).reverse).length = xs.length by simp [dgA_len, smA_len]; omega)
        have hsl2 := Lib.hid (show (cyA b ((smA f q xs).take k) 0 ++ List.replicate (xs.length - k) (0:Int)).length = xs.length by simp [cyA_len, smA_len]; omega)
        obtain ⟨z1, hz1⟩ : ∃ z, wr.cell? ⟨gb, xs.length - 1 - k, none⟩ = some (.int .i64 z) := ⟨_, HRD.out.at.2.2.2.2.1 _ (by rw [hsl.out]; omega)⟩
        obtain ⟨z2, hz2⟩ : ∃ z, wr.cell? ⟨ga, k, none⟩ = some (.int .i64 z) := ⟨_, HRC.out.at.2.2.2.2.1 _ (by rw [hsl2.out]; omega)⟩
        have hfa := HRD.out.at.2.2.2.2.2 (xs.length - 1 - k)
        have hfb := HRC.out.at.2.2.2.2.2 k
        have hne := HNE.out
        go_wp2
        go_region
        go_wp2
        rw [E3.out, E1.out]
        have hds : (dgA b ((smA f q xs).take k) 0).length = k := by rw [dgA_len, List.length_take, smA_len]; omega
        have hcs : (cyA b ((smA f q xs).take k) 0).length = k := by rw [cyA_len, List.length_take, smA_len]; omega
        have r1 := HRD.out.set (xs.length - 1 - k) ((f * x1 + q * x2 + cc) % b)
        rw [backfill _ k _ _ hds hlt] at r1
        have r2 := HRC.out.grown r1.2 (.inr (fun e => HNE.out (by simp [Value.ownBlock] at e; exact e.symm)))
        have r3 := r2.set k ((f * x1 + q * x2 + cc) / b)
        rw [frontfill _ k _ _ hcs hlt] at r3
        have r4 := r1.1.grown r3.2 (.inr (fun e => HNE.out (by simp [Value.ownBlock] at e; exact e)))
        refine ⟨⟨k + 1, by omega, by go_num, ?_, ?_, ?_, ?_⟩, by simp [intOf]; omega⟩
        · rw [HSN.out, coA_snoc, ← HCC.out]
        · rw [HSN.out, dgA_snoc, ← HCC.out]
          exact r4.drew
        · rw [HSN.out, cyA_snoc, ← HCC.out]
          exact r3.1.drew
        · exact ((HB.out.setCell (by have := HW3.out; exact this) _).setCell (by have := HW1.out; exact this) _).drew
      · obtain rfl : k = xs.length := by omega
        go_wp2
        go_ret2
        have hall : (smA f q xs).take xs.length = smA f q xs := List.take_of_length_le (by rw [smA_len]; exact Nat.le_refl _)
        have r1 := HRD.out
        have r2 := HRC.out
        rw [hall, Nat.sub_self] at r1 r2
        have hz := HSZ.out
        exact ⟨gb, ga, rfl, by simpa using r1.mono (by have := HW3.out; simp at this; omega), by simpa using r2.mono (by have := HW1.out; simp at this; omega), Below.step HAL.out HAL.out.size HB.out⟩

end Go.Proofs.Ytnggfcopndcppaa
