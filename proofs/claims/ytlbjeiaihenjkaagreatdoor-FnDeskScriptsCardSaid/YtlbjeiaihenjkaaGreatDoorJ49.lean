/-
  Joint text of R6, R7, R8, R9: what each proves stands ahead of it.
-/
import Derived.Test.YtlbjeiaihenjkaaGreatDoorJ47
import Derived.Test.YtlbjeiaihenjkaaGreatDoorJ35
/- from R6: The program's replies to a script.  -/
namespace Go.Proofs.YtlbjeiaihenjkaaGreatDoor
open Go.RowKit
set_option linter.unusedVariables false
set_option linter.unusedSimpArgs false
set_option maxRecDepth 100000

/-- The replies, as values. -/
def rpT (rs : List (Int × Int × Rp)) : List Value := rs.map fun r => str r.2.2.txt
theorem rpT_len (rs : List (Int × Int × Rp)) : (rpT rs).length = rs.length := by simp [rpT]
theorem rpT_step (l : List (Int × Int × Rp)) (k n : Nat) (hn : l.length = n) (hk : k < n) (r : Int × Int × Rp) (hr : l[k]? = some r) :
    (rpT (l.take k) ++ List.replicate (n - k) (Value.string ⟨#[]⟩)).set k (str r.2.2.txt) = rpT (l.take (k + 1)) ++ List.replicate (n - (k + 1)) (Value.string ⟨#[]⟩) := by
  have e : n - k = (n - (k + 1)) + 1 := by omega
  have hl : (rpT (l.take k)).length = k := by rw [rpT_len, List.length_take]; omega
  rw [e, List.replicate_succ, List.set_append_right _ _ (by omega), hl, Nat.sub_self, List.set_cons_zero, List.take_add_one, hr]
  unfold rpT
  rw [List.map_append, List.append_assoc]
  rfl

theorem impl_RunScript_bad (S : Tx) (hn : ¬ scOk S) (pn pw : Addr) (w : World) (h : Env w pn pw) :
    Calls Tryz.prog 14 #[str S] w fun e w' => e = .returned (.tuple #[.slice none 0 0, .bool false]) ∧ Below w.heap.size w w' := by
  have HK := Lib.hid (runScript_bad S hn pn pw w h)
  clear h hn
  go_enter Tryz.func14, Tryz.ntmps14
  go_wp2_with fail
  refine HK.out.mono ?_
  rintro e w1 ⟨rfl, hb⟩
  have HB := Lib.hid hb
  clear hb
  go_wp2
  go_ret2
  exact ⟨rfl, HB.out⟩

theorem impl_RunScript_ok (S : Tx) (hok : scOk S) (pn pw : Addr) (w : World) (h : Env w pn pw) :
    Calls Tryz.prog 14 #[str S] w fun e w' => ∃ g, e = .returned (.tuple #[.slice (some ⟨g, 0, none⟩) (runS 7 10 (scL S)).length (runS 7 10 (scL S)).length, .bool true]) ∧ Rg 9 w' w.heap.size (.slice (some ⟨g, 0, none⟩) (runS 7 10 (scL S)).length (runS 7 10 (scL S)).length) (rpT (runS 7 10 (scL S))) ∧ Below w.heap.size w w' := by
  obtain ⟨rs, hrs⟩ : ∃ rs, rs = runS 7 10 (scL S) := ⟨_, rfl⟩
  obtain ⟨K, hK⟩ : ∃ K, K = rs.length := ⟨_, rfl⟩
  have HK := Lib.hid (runScript_ok S hok pn pw w h)
  have hk50 : K ≤ 50 := by rw [hK, hrs, runS_len, scL_len]; exact hok.2.2
  have HE := Lib.hid (fun w' (hb : Below w.heap.size w w') => h.keep hb)
  rw [← hrs, ← hK] at HK ⊢
  have HKL := Lib.hid hK
  clear h hok hrs hK
  go_enter Tryz.func14, Tryz.ntmps14
  go_wp2_with fail
  refine HK.out.mono ?_
  rintro e w1 ⟨g, rfl, hO, hg, hb⟩
  have HB := Lib.hid hb
  have O1 := Lib.hid hO
  have hgz := hO.lt
  clear hb hO
  go_wp2_with (at_make; refine wpList_mkG rfl _ _ 30 9 (.string ⟨#[]⟩) 16 Tryz.underlying30 infoT (by omega) rfl rfl .i64 .i64 _ _ K rfl rfl rfl rfl (by omega) ?_; intro w2 hr1 hg1 hb1; have R1 := Lib.hid hr1; have B1 := Lib.hid hb1; clear hr1 hg1 hb1)
  go_loopw [21] (fun i wr => ∃ k : Nat, k ≤ K ∧ i = .int .i64 (k : Int) ∧ Rg 9 wr w1.heap.size (.slice (some ⟨w1.heap.size, 0, none⟩) K K) (rpT (rs.take k) ++ List.replicate (K - k) (.string ⟨#[]⟩)) ∧ Below w1.heap.size w1 wr) (fun i _ => K - (intOf i).toNat)
  case atStart => exact ⟨0, Nat.zero_le _, rfl, by simpa [rpT] using R1.out, B1.out⟩
  case round =>
    obtain ⟨k, hk, rfl, hr, hb⟩ := hrel
    have HR := Lib.hid hr
    have HBB := Lib.hid hb
    have OR := Lib.hid (O1.out.keep hb hgz)
    have HB1 := Lib.hid (HB.out.trans (hb.mono HB.out.size))
    have hz : w1.heap.size < wr.heap.size := hr.at.2.2.1
    clear hr hb
    by_cases hlt : k < K
    · obtain ⟨r, hr1⟩ : ∃ r, rs[k]? = some r := ⟨rs[k]'(by rw [← HKL.out]; exact hlt), List.getElem?_eq_getElem _⟩
      obtain ⟨c0, c1, c2, c3⟩ := OR.out.at' k r hr1
      have HST := Lib.hid (rpT_step rs k K HKL.out.symm hlt r hr1)
      obtain ⟨n', b', rp⟩ := r
      have HX := Lib.hid (fun w' hw => saidL_any pn pw k n' b' rp w' hw)
      obtain ⟨ev, hev⟩ : ∃ ev, ev = rpL pn pw k rp := ⟨_, rfl⟩
      obtain ⟨T, hT⟩ : ∃ T, T = rpS rp := ⟨_, rfl⟩
      obtain ⟨Y, hY⟩ : ∃ Y, Y = rp.txt := ⟨_, rfl⟩
      have hone : ev.oneCell' = true := by rw [hev]; cases rp <;> rfl
      dsimp only at c0 c1 c2 c3 HST
      rw [← hev] at c3 HX
      rw [← hT] at c2 HX
      rw [← hY] at HX HST
      have hst := fun W q => run_store Tryz.prog W ⟨q, 3, none⟩ ev .plain hone
      have hk2 : k ≤ 50 := by omega
      have HLT := Lib.hid hlt
      have hgr : g < wr.heap.size := OR.out.lt
      have ab := alloc_belowD wr (.cells #[.int .i64 n', .int .i64 b', str T, ev] 60)
      have HEv := Lib.hid (HE.out _ (HB1.out.trans (ab.mono HB1.out.size)))
      have HAB := Lib.hid ab
      clear hr1 hev hT hY hone ab
      obtain ⟨V, hV⟩ : ∃ V, V = wr.alloc (.cells #[.int .i64 n', .int .i64 b', str T, ev] 60) := ⟨_, rfl⟩
      have HVz := Lib.hid (show wr.heap.size + 1 = V.heap.size by rw [hV]; simp)
      rw [← hV] at HEv HAB
      have HRV := Lib.hid (HR.out.keep HAB.out)
      go_wp2_with fail
      rw [← hV]
      clear hV
      refine (HX.out _ HEv.out).mono ?_
      rintro e w4 ⟨rfl, hb⟩
      have HR2 := Lib.hid (HRV.out.keep hb)
      have HB2 := Lib.hid ((HBB.out.trans (HAB.out.mono HBB.out.size)).trans (hb.mono (by have h1 := HVz.out; have h2 := HBB.out.size; omega)))
      have hc2 := HR2.out.at.2.2.2.2.2.1
      have hf2 := HR2.out.at.2.2.2.2.2.2
      have hlen2 : k < (rpT (rs.take k) ++ List.replicate (K - k) (Value.string ⟨#[]⟩)).length := by
        rw [List.length_append, rpT_len, List.length_take, List.length_replicate, ← HKL.out]; have := HLT.out; omega
      have e0 := hc2 k hlen2
      have f0 := hf2 k
      obtain ⟨old, hold⟩ : ∃ old, w4.cell? ⟨w1.heap.size, k, none⟩ = some old := ⟨_, e0⟩
      have HR3 := Lib.hid (HR2.out.set k (str Y))
      clear hb hc2 hf2 e0 hlen2
      go_wp2
      go_roundw
      case rel => exact ⟨k + 1, by have := HLT.out; omega, by go_num, by rw [← HST.out]; exact HR3.out.1, HB2.out.setCell (p := ⟨w1.heap.size, k, none⟩) (Nat.le_refl _) _⟩
      case measure => simp [intOf]; omega
    · obtain rfl : k = K := by omega
      have HF := Lib.hid (show Rg 9 wr w1.heap.size (.slice (some ⟨w1.heap.size, 0, none⟩) k k) (rpT rs) by
        have := HR.out
        rw [Nat.sub_self, List.replicate_zero, List.append_nil, HKL.out, List.take_length] at this
        rw [HKL.out]
        exact this)
      clear hlt HR
      go_wp2
      go_ret2
      exact ⟨_, rfl, HF.out.mono HB.out.size, HB1.out⟩

end Go.Proofs.YtlbjeiaihenjkaaGreatDoor

/- from R7: Marks as texts, that the laws lay into a list of texts and look for again.  -/
namespace Go.Proofs.YtlbjeiaihenjkaaGreatDoor
open Go.RowKit
set_option linter.unusedVariables false
set_option linter.unusedSimpArgs false
set_option maxRecDepth 100000

/-- The mark of a number below a hundred. -/
def mkT (k : Nat) : Tx := if k < 10 then [109, UInt8.ofNat (48 + k)] else [109, UInt8.ofNat (48 + k / 10), UInt8.ofNat (48 + k % 10)]

theorem markText_small (N : Nat) (h0 : 1 ≤ N) (h1 : N < 10) (w : World) : Calls Tryz.prog 41 #[.int .i64 (N : Int)] w fun e w' => e = .returned (str (mkT N)) ∧ Below w.heap.size w w' := by
  have hx : UInt8.ofNat ((48 : Int) + (N : Int)).toNat = UInt8.ofNat (48 + N) := by congr 1
  have HM := Lib.hid (show mkT N = [109, UInt8.ofNat (48 + N)] from if_pos h1)
  obtain ⟨c, hc⟩ : ∃ c, c = UInt8.ofNat (48 + N) := ⟨_, rfl⟩
  have hcv := one_run c (48 + (N : Int)) (by rw [hc]; exact hx)
  have hw : IntKind.u8.wrap (48 + (N : Int)) = 48 + (N : Int) := IntWalk.u8_in _ (by omega)
  have hw3 : IntKind.i64.wrap (48 + (N : Int)) = 48 + (N : Int) := IntWalk.i64_in _ (by omega)
  have hw4 : (N : Int).tmod 10 = (N : Int) := by rw [Int.tmod_eq_emod_of_nonneg (by omega)]; omega
  have hw5 : (N : Int).tdiv 10 = 0 := by rw [Int.tdiv_eq_ediv_of_nonneg (by omega)]; omega
  have hq : (N : Int) / 10 = 0 := by omega
  have hr : (N : Int) % 10 = (N : Int) := by omega
  rw [← hc] at HM
  rw [HM.out]
  have hp : 0 < (N : Int) := by omega
  clear hx hc h0 h1
  go_enter Tryz.func41, Tryz.ntmps41
  go_wp2
  refine wp_loop_rounds 2 ?_
  rw [rounds_succ]
  go_wp2
  rw [rounds_succ]
  go_wp2
  go_ret
  exact ⟨congrArg Ending.returned (congrArg Value.string (ByteArray.ext (by simp))), alloc_belowD _ _⟩

theorem markText_big (N : Nat) (h0 : 10 ≤ N) (h1 : N < 100) (w : World) : Calls Tryz.prog 41 #[.int .i64 (N : Int)] w fun e w' => e = .returned (str (mkT N)) ∧ Below w.heap.size w w' := by
  have HM := Lib.hid (show mkT N = [109, UInt8.ofNat (48 + N / 10), UInt8.ofNat (48 + N % 10)] from if_neg (by omega))
  obtain ⟨Q, hQ⟩ : ∃ Q, Q = N / 10 := ⟨_, rfl⟩
  obtain ⟨R, hR⟩ : ∃ R, R = N % 10 := ⟨_, rfl⟩
  have hq : (N : Int) / 10 = (Q : Int) := by omega
  have hr : (N : Int) % 10 = (R : Int) := by omega
  have hR9 : R ≤ 9 := by omega
  have hQ9 : Q ≤ 9 := by omega
  have hQ1 : 1 ≤ Q := by omega
  rw [← hQ, ← hR] at HM
  have hx : UInt8.ofNat ((48 : Int) + (R : Int)).toNat = UInt8.ofNat (48 + R) := by congr 1
  have hy : UInt8.ofNat ((48 : Int) + (Q : Int)).toNat = UInt8.ofNat (48 + Q) := by congr 1
  obtain ⟨c, hc⟩ : ∃ c, c = UInt8.ofNat (48 + R) := ⟨_, rfl⟩
  obtain ⟨d, hd⟩ : ∃ d, d = UInt8.ofNat (48 + Q) := ⟨_, rfl⟩
  have hcv := one_run c (48 + (R : Int)) (by rw [hc]; exact hx)
  have hdv := one_run d (48 + (Q : Int)) (by rw [hd]; exact hy)
  have hw : IntKind.u8.wrap (48 + (R : Int)) = 48 + (R : Int) := IntWalk.u8_in _ (by omega)
  have hv : IntKind.u8.wrap (48 + (Q : Int)) = 48 + (Q : Int) := IntWalk.u8_in _ (by omega)
  have hw4 : (N : Int).tmod 10 = (R : Int) := by rw [Int.tmod_eq_emod_of_nonneg (by omega)]; exact hr
  have hw5 : (N : Int).tdiv 10 = (Q : Int) := by rw [Int.tdiv_eq_ediv_of_nonneg (by omega)]; exact hq
  have hw6 : (Q : Int).tmod 10 = (Q : Int) := by rw [Int.tmod_eq_emod_of_nonneg (by omega)]; omega
  have hw7 : (Q : Int).tdiv 10 = 0 := by rw [Int.tdiv_eq_ediv_of_nonneg (by omega)]; omega
  have hq2 : (Q : Int) / 10 = 0 := by omega
  have hr2 : (Q : Int) % 10 = (Q : Int) := by omega
  rw [← hc, ← hd] at HM
  rw [HM.out]
  have hp : 0 < (N : Int) := by omega
  have hp2 : 0 < (Q : Int) := by omega
  clear hx hy hc hd hQ hR
  go_enter Tryz.func41, Tryz.ntmps41
  go_wp2
  refine wp_loop_rounds 3 ?_
  rw [rounds_succ]
  go_wp2
  rw [rounds_succ]
  go_wp2
  rw [rounds_succ]
  go_wp2
  go_ret
  exact ⟨congrArg Ending.returned (congrArg Value.string (ByteArray.ext (by simp))), (alloc_belowD _ _).trans ((alloc_belowD _ _).mono (by simp))⟩
theorem markText_any (k : Int) (h0 : 1 ≤ k) (h1 : k < 100) (w : World) : Calls Tryz.prog 41 #[.int .i64 k] w fun e w' => e = .returned (str (mkT k.toNat)) ∧ Below w.heap.size w w' := by
  have e : ((k.toNat : Nat) : Int) = k := Int.toNat_of_nonneg (by omega)
  by_cases h : k.toNat < 10
  · have := markText_small k.toNat (by omega) h w; rwa [e] at this
  · have := markText_big k.toNat (by omega) (by omega) w; rwa [e] at this

/-- The first n marks from k on. -/
def mkL (k : Int) (n : Nat) : List Value := (List.range n).map fun (i : Nat) => str (mkT (k + (i : Int)).toNat)
theorem mkL_len (k : Int) (n : Nat) : (mkL k n).length = n := by simp [mkL]
theorem mkL_at (k : Int) (n j : Nat) (h : j < n) : (mkL k n)[j]? = some (str (mkT (k + (j : Int)).toNat)) := by simp [mkL, h]
/-- The first j cells bear marks. -/
def MkT (k : Int) (n : Nat) (ys : List Value) (j : Nat) : Prop := ys.length = n ∧ ∀ t, t < j → ys[t]? = some (str (mkT (k + (t : Int)).toNat))
theorem MkT.step {k : Int} {n : Nat} {ys : List Value} {j : Nat} (h : MkT k n ys j) (hj : j < n) : MkT k n (ys.set j (str (mkT (k + (j : Int)).toNat))) (j + 1) := by
  refine ⟨by simp [h.1], fun t ht => ?_⟩
  rw [List.getElem?_set]
  by_cases e : j = t
  · subst e
    rw [if_pos rfl, if_pos (by rw [h.1]; omega)]
  · rw [if_neg e]
    exact h.2 t (by omega)
theorem MkT.done {k : Int} {n : Nat} {ys : List Value} (h : MkT k n ys n) : ys = mkL k n := by
  apply List.ext_getElem?
  intro t
  by_cases ht : t < n
  · rw [h.2 t ht, mkL_at k n t ht]
  · rw [List.getElem?_eq_none (by rw [h.1]; omega), List.getElem?_eq_none (by rw [mkL_len]; omega)]

end Go.Proofs.YtlbjeiaihenjkaaGreatDoor

/- from R8: The laws' loops over lists of texts: marks laid, looked for, lists compared.  -/
namespace Go.Proofs.YtlbjeiaihenjkaaGreatDoor
open Go.RowKit
set_option linter.unusedVariables false
set_option linter.unusedSimpArgs false
set_option maxRecDepth 100000

theorem markStringS_nil (k : Int) (w : World) : Calls Tryz.prog 16 #[.slice none 0 0, .int .i64 k] w fun e w' => e = .returned (.int .i64 k) ∧ w' = w := by
  go_enter Tryz.func16, Tryz.ntmps16
  go_wp2
  refine wp_loop_rounds 1 ?_
  rw [rounds_succ]
  go_wp2
  go_ret
  exact ⟨rfl, rfl⟩
theorem heldStringS_nil (k : Int) (w : World) : Calls Tryz.prog 17 #[.slice none 0 0, .int .i64 k] w fun e w' => e = .returned (.int .i64 k) ∧ w' = w := by
  go_enter Tryz.func17, Tryz.ntmps17
  go_wp2
  refine wp_loop_rounds 1 ?_
  rw [rounds_succ]
  go_wp2
  go_ret
  exact ⟨rfl, rfl⟩

theorem markStringS_any (g n cap : Nat) (xs : List Value) (k : Int) (B : Nat) (w : World) (h : Rg 9 w B (.slice (some ⟨g, 0, none⟩) n cap) xs) (hk : 1 ≤ k) (hk2 : k + n ≤ 90) :
    Calls Tryz.prog 16 #[.slice (some ⟨g, 0, none⟩) n cap, .int .i64 k] w fun e w' => e = .returned (.int .i64 (k + n)) ∧ Rg 9 w' B (.slice (some ⟨g, 0, none⟩) n cap) (mkL k n) ∧ Below B w w' := by
  have H := Lib.hid h
  obtain ⟨hn, hBg, -, -, -, -, -⟩ := h.at
  have HN := Lib.hid hn
  have HMT := Lib.hid (fun (j : Int) (h0 : 1 ≤ j) (h1 : j < 100) W => markText_any j h0 h1 W)
  clear h hn
  go_enter Tryz.func16, Tryz.ntmps16
  go_wp2
  go_loopw [1, 5] (fun m i wr => ∃ (j : Nat) (ys : List Value), j ≤ n ∧ i = .int .i64 j ∧ m = .int .i64 (k + j) ∧ MkT k n ys j ∧ Rg 9 wr B (.slice (some ⟨g, 0, none⟩) n cap) ys ∧ Below B w wr) (fun _ i _ => n - (intOf i).toNat)
  case atStart => exact ⟨0, xs, Nat.zero_le _, rfl, by simp, ⟨HN.out.symm, fun t ht => by omega⟩, H.out, Below.refl _ _⟩
  case round =>
    obtain ⟨j, ys, hj, rfl, rfl, hm, hr, hb⟩ := hrel
    have HM := Lib.hid hm
    have HR := Lib.hid hr
    have HB := Lib.hid hb
    have hgz : g < wr.heap.size := hr.at.2.2.1
    clear hm hr hb
    by_cases hlt : j < n
    · have HT := Lib.hid (HMT.out (k + (j : Int)) (by omega) (by omega) wr)
      obtain ⟨T, hT⟩ : ∃ T, T = mkT (k + (j : Int)).toNat := ⟨_, rfl⟩
      have HS := Lib.hid (HM.out.step hlt)
      rw [← hT] at HT HS
      clear hT
      go_wp2_with fail
      refine HT.out.mono ?_
      rintro e w2 ⟨rfl, hb⟩
      have HR2 := Lib.hid (HR.out.keep hb)
      have HB2 := Lib.hid (HB.out.trans (hb.mono (by omega)))
      obtain ⟨old, hold⟩ : ∃ old, w2.cell? ⟨g, j, none⟩ = some old := ⟨_, HR2.out.at.2.2.2.2.2.1 j (by rw [HM.out.1]; exact hlt)⟩
      have hf := HR2.out.at.2.2.2.2.2.2 j
      clear hb
      go_wp2
      go_roundw
      case rel =>
        have h1 := HR2.out.set j (str T)
        exact ⟨j + 1, _, by omega, by go_num, by go_num, HS.out, h1.1, HB2.out.setCell (p := ⟨g, j, none⟩) hBg _⟩
      case measure => simp [intOf]; omega
    · obtain rfl : j = n := by omega
      go_wp2
      go_ret
      exact ⟨rfl, by rw [← HM.out.done]; exact HR.out, HB.out⟩

theorem heldStringS_any (g n cap : Nat) (k : Int) (B : Nat) (w : World) (h : Rg 9 w B (.slice (some ⟨g, 0, none⟩) n cap) (mkL k n)) (hk : 1 ≤ k) (hk2 : k + n ≤ 90) :
    Calls Tryz.prog 17 #[.slice (some ⟨g, 0, none⟩) n cap, .int .i64 k] w fun e w' => e = .returned (.int .i64 (k + n)) ∧ Below w.heap.size w w' := by
  have H := Lib.hid h
  have hcap : n ≤ cap := by have := h.at.2.2.2.1; rw [mkL_len] at this; exact this
  have HMT := Lib.hid (fun (j : Int) (h0 : 1 ≤ j) (h1 : j < 100) W => markText_any j h0 h1 W)
  clear h
  go_enter Tryz.func17, Tryz.ntmps17
  go_wp2
  go_loopw [1, 5] (fun m i wr => ∃ (j : Nat), j ≤ n ∧ i = .int .i64 j ∧ m = .int .i64 (k + j) ∧ Below w.heap.size w wr) (fun _ i _ => n - (intOf i).toNat)
  case atStart => exact ⟨0, Nat.zero_le _, rfl, by simp, Below.refl _ _⟩
  case round =>
    obtain ⟨j, hj, rfl, rfl, hb⟩ := hrel
    have HB := Lib.hid hb
    have HR := Lib.hid (H.out.keep hb)
    clear hb
    by_cases hlt : j < n
    · have HT := Lib.hid (HMT.out (k + (j : Int)) (by omega) (by omega) wr)
      obtain ⟨T, hT⟩ : ∃ T, T = mkT (k + (j : Int)).toNat := ⟨_, rfl⟩
      have hc : ∀ W, Below wr.heap.size wr W → W.cell? ⟨g, j, none⟩ = some (str T) := fun W hb => by
        have h2 := (HR.out.keep hb).at.2.2.2.2.2.1 j (by rw [mkL_len]; exact hlt)
        rw [h2, hT]
        have h3 := mkL_at k n j hlt
        rw [← h3]
        exact (List.getElem?_eq_getElem _).symm
      have HC := Lib.hid hc
      have hc0 := hc wr (Below.refl _ _)
      rw [← hT] at HT
      have HTT := Lib.hid hT.symm
      clear hT hc
      have HTD := Lib.hid (HMT.out (k + (j : Int)) (by omega) (by omega) wr.drew)
      have hjs : str T = str T := rfl
      have hmk : mkT (k + (j : Int)).toNat = T := HTT.out
      rw [hmk] at HTD
      clear hjs hmk
      go_wp2
      go_region_with (go_at_call 41; refine HTD.out.mono ?_; rintro e w2 ⟨rfl, hb⟩; replace hb := (Below.refl wr.heap.size wr).drew.trans hb; have HB2 := Lib.hid (HB.out.trans (hb.mono HB.out.size)); have hc2 := HC.out w2 hb; clear hb)
      all_goals
        go_wp2
        go_roundw
        case rel => exact ⟨j + 1, by omega, by go_num, by go_num, HB2.out⟩
        case measure => simp [intOf]; omega
    · obtain rfl : j = n := by omega
      go_wp2
      go_ret
      exact ⟨rfl, HB.out⟩

theorem eqStringS_any (g1 g2 n c1 c2 : Nat) (xs : List Tx) (B C : Nat) (w : World) (h1 : Rg 9 w B (.slice (some ⟨g1, 0, none⟩) n c1) (xs.map str)) (h2 : Rg 9 w C (.slice (some ⟨g2, 0, none⟩) n c2) (xs.map str)) (hn : n ≤ 1000) :
    Calls Tryz.prog 15 #[.slice (some ⟨g1, 0, none⟩) n c1, .slice (some ⟨g2, 0, none⟩) n c2] w fun e w' => e = .returned (.bool true) ∧ Below w.heap.size w w' := by
  have hl : xs.length = n := by have := h1.at.1; rw [List.length_map] at this; exact this.symm
  have k1 : n ≤ c1 := by have := h1.at.2.2.2.1; rw [List.length_map, hl] at this; exact this
  have k2 : n ≤ c2 := by have := h2.at.2.2.2.1; rw [List.length_map, hl] at this; exact this
  have HC := Lib.hid (show ∀ j, j < n → ∃ x, w.cell? ⟨g1, j, none⟩ = some (str x) ∧ w.cell? ⟨g2, j, none⟩ = some (str x) from fun j hj => by
    have hj' : j < (xs.map str).length := by rw [List.length_map, hl]; exact hj
    exact ⟨xs[j], by rw [h1.at.2.2.2.2.2.1 j hj', List.getElem_map], by rw [h2.at.2.2.2.2.2.1 j hj', List.getElem_map]⟩)
  clear h1 h2 hl
  go_enter Tryz.func15, Tryz.ntmps15
  go_wp2
  go_loopw [5] (fun i wr => ∃ j : Nat, j ≤ n ∧ i = .int .i64 j ∧ Below w.heap.size w wr) (fun i _ => n - (intOf i).toNat)
  case atStart => exact ⟨0, Nat.zero_le _, rfl, Below.refl _ _⟩
  case round =>
    obtain ⟨j, hj, rfl, hb⟩ := hrel
    have HB := Lib.hid hb
    by_cases hlt : j < n
    · obtain ⟨x, y1, y2⟩ := HC.out j hlt
      have x1 := (hb.cell (p := ⟨g1, j, none⟩) (cell_lt y1)).trans y1
      have x2 := (hb.cell (p := ⟨g2, j, none⟩) (cell_lt y2)).trans y2
      clear hb y1 y2
      go_wp2
      go_region
      all_goals
        go_wp2
        go_roundw
        case rel => exact ⟨j + 1, by omega, by go_num, HB.out.drew⟩
        case measure => simp [intOf]; omega
    · obtain rfl : j = n := by omega
      clear hb
      go_wp2
      go_ret
      exact ⟨rfl, HB.out⟩

end Go.Proofs.YtlbjeiaihenjkaaGreatDoor

/- from R9: The law of the replies to a script.  -/
namespace Go.Proofs.YtlbjeiaihenjkaaGreatDoor
open Go.RowKit
set_option linter.unusedVariables false
set_option linter.unusedSimpArgs false
set_option maxRecDepth 100000

theorem eqStringS_zero (a b : Option Addr) (c d : Nat) (w : World) : Calls Tryz.prog 15 #[.slice a 0 c, .slice b 0 d] w fun e w' => e = .returned (.bool true) ∧ Below w.heap.size w w' := by
  go_enter Tryz.func15, Tryz.ntmps15
  go_wp2
  refine wp_loop_rounds 1 ?_
  rw [rounds_succ]
  go_wp2
  go_ret
  exact ⟨rfl, Below.refl _ _⟩
theorem eqS (v u : Value) (Ls : List Tx) (B C : Nat) (w : World) (h1 : Rg 9 w B v (Ls.map str)) (h2 : Rg 9 w C u (Ls.map str)) (hn : Ls.length ≤ 1000) :
    Calls Tryz.prog 15 #[v, u] w fun e w' => e = .returned (.bool true) ∧ Below w.heap.size w w' := by
  rcases h1.cases with ⟨rfl, e1⟩ | ⟨g1, c1, rfl⟩
  · have hz : Ls.length = 0 := by have := congrArg List.length e1; simpa using this
    rcases h2.cases with ⟨rfl, _⟩ | ⟨g2, c2, rfl⟩
    · exact eqStringS_zero _ _ _ _ w
    · rw [List.length_map, hz]; exact eqStringS_zero _ _ _ _ w
  · rcases h2.cases with ⟨rfl, e2⟩ | ⟨g2, c2, rfl⟩
    · have hz : Ls.length = 0 := by have := congrArg List.length e2; simpa using this
      rw [List.length_map, hz]; exact eqStringS_zero _ _ _ _ w
    · have e : (Ls.map str).length = Ls.length := List.length_map _
      rw [e] at h1 h2 ⊢
      exact eqStringS_any g1 g2 Ls.length c1 c2 Ls B C w h1 h2 hn
theorem markS (v : Value) (xs : List Value) (B : Nat) (w : World) (h : Rg 9 w B v xs) (hn : xs.length ≤ 60) :
    Calls Tryz.prog 16 #[v, .int .i64 1] w fun e w' => e = .returned (.int .i64 (1 + (xs.length : Int))) ∧ Rg 9 w' B v (mkL 1 xs.length) ∧ Below B w w' := by
  rcases h.cases with ⟨rfl, rfl⟩ | ⟨g, c, rfl⟩
  · refine (markStringS_nil 1 w).mono ?_
    rintro e w' ⟨rfl, rfl⟩
    exact ⟨rfl, Rg.nil _ _ _, Below.refl _ _⟩
  · exact markStringS_any g xs.length c xs 1 B w h (by omega) (by omega)
theorem heldS (v : Value) (n : Nat) (B : Nat) (w : World) (h : Rg 9 w B v (mkL 1 n)) (hn : n ≤ 60) :
    Calls Tryz.prog 17 #[v, .int .i64 1] w fun e w' => e = .returned (.int .i64 (1 + (n : Int))) ∧ Below w.heap.size w w' := by
  rcases h.cases with ⟨rfl, e0⟩ | ⟨g, c, rfl⟩
  · have hz : n = 0 := by have := congrArg List.length e0; rw [mkL_len] at this; simpa using this
    subst hz
    refine (heldStringS_nil 1 w).mono ?_
    rintro e w' ⟨rfl, rfl⟩
    exact ⟨rfl, Below.refl _ _⟩
  · have e : (mkL 1 n).length = n := mkL_len _ _
    rw [e] at h ⊢
    exact heldStringS_any g n c 1 B w h (by omega) (by omega)

theorem impl_RunScript (S : Tx) (pn pw : Addr) (w : World) (h : Env w pn pw) :
    Calls Tryz.prog 14 #[str S] w fun e w' => ∃ v, e = .returned (.tuple #[v, .bool (decide (scOk S))]) ∧ Rg 9 w' w.heap.size v (((scR S).map fun r => r.2.2.txt).map str) ∧ Below w.heap.size w w' := by
  by_cases hok : scOk S
  · have e : scR S = runS 7 10 (scL S) := if_pos hok
    rw [e, decide_eq_true hok]
    refine (impl_RunScript_ok S hok pn pw w h).mono ?_
    rintro e w' ⟨g, rfl, hr, hb⟩
    exact ⟨_, rfl, by rw [List.map_map]; exact hr, hb⟩
  · have e : scR S = [] := if_neg hok
    rw [e, decide_eq_false hok]
    refine (impl_RunScript_bad S hok pn pw w h).mono ?_
    rintro e w' ⟨rfl, hb⟩
    exact ⟨_, rfl, Rg.nil _ _ _, hb⟩
theorem scR_len (S : Tx) : (scR S).length ≤ 50 := by
  unfold scR
  by_cases h : scOk S
  · rw [if_pos h, runS_len, scL_len]; exact h.2.2
  · rw [if_neg h]; simp

theorem law_RunScript (S : Tx) (pn pw : Addr) (w : World) (h : Env w pn pw) : Calls Tryz.prog 4 #[str S] w fun e w' => e = .returned (.bool true) ∧ Below w.heap.size w w' := by
  have HI := Lib.hid (fun w' hw => impl_RunScript S pn pw w' hw)
  have HS := Lib.hid (fun w' => spec_RunScript S w')
  have HE := Lib.hid (fun w' (hb : Below w.heap.size w w') => h.keep hb)
  clear h
  obtain ⟨q, hq⟩ : ∃ q, q = decide (scOk S) := ⟨_, rfl⟩
  obtain ⟨Ls, hL⟩ : ∃ Ls, Ls = (scR S).map fun r => r.2.2.txt := ⟨_, rfl⟩
  have e1 : ((scR S).map fun r => str r.2.2.txt) = Ls.map str := by rw [hL, List.map_map]; rfl
  have hn : Ls.length ≤ 50 := by rw [hL, List.length_map]; exact scR_len S
  rw [← hq] at HI HS
  rw [← hL] at HI
  rw [e1] at HS
  clear hq hL e1
  obtain ⟨K, hK⟩ : ∃ K, K = Ls.length := ⟨_, rfl⟩
  have hKl : (Ls.map str).length = K := by rw [List.length_map, hK]
  have HN := Lib.hid (And.intro hK (And.intro hn hKl))
  have hk50 : K ≤ 50 := by omega
  clear hK hn hKl
  go_enter Tryz.func4, Tryz.ntmps4
  go_wp2_with fail
  · go_ret
    exact ⟨rfl, Below.refl _ _⟩
  refine (HS.out _).mono ?_
  rintro e w1 ⟨v0, rfl, hr, hb⟩
  have R0 := Lib.hid hr
  have B1 := Lib.hid hb
  clear hr hb
  go_wp2_with fail
  refine (HI.out _ (HE.out _ B1.out)).mono ?_
  rintro e w2 ⟨g0, rfl, hr, hb⟩
  have R1 := Lib.hid hr
  have R02 := Lib.hid (R0.out.keep hb)
  have BB2 := Lib.hid hb
  have B2 := Lib.hid (B1.out.trans (hb.mono B1.out.size))
  clear hr hb
  go_wp2_with fail
  refine (eqS g0 v0 Ls _ _ w2 R1.out R02.out (by have := HN.out.2.1; omega)).mono ?_
  rintro e w2' ⟨rfl, hb⟩
  have R1' := Lib.hid (R1.out.keep hb)
  have BB2' := Lib.hid (BB2.out.trans (hb.mono BB2.out.size))
  have hs12 := BB2.out.size
  have hs22 := hb.size
  have h12 : w1.heap.size ≤ w2'.heap.size := by omega
  clear hb hs12 hs22
  go_wp2_with fail
  refine (markS g0 _ _ _ R1'.out (by have := HN.out.2.1; rw [List.length_map]; omega)).mono ?_
  rintro e w3 ⟨rfl, hr, hb⟩
  rw [HN.out.2.2] at hr ⊢
  have R3 := Lib.hid hr
  have BB3 := Lib.hid (BB2'.out.trans hb)
  have R03 := Lib.hid (R0.out.keep BB3.out)
  have B3 := Lib.hid (B1.out.trans (BB3.out.mono B1.out.size))
  clear hr hb
  go_wp2_with fail
  refine (heldS g0 K _ _ R3.out (by omega)).mono ?_
  rintro e w4 ⟨rfl, hb⟩
  have R4 := Lib.hid (R3.out.keep hb)
  have R04 := Lib.hid (R03.out.keep hb)
  have B4 := Lib.hid (B3.out.trans (hb.mono B3.out.size))
  clear hb
  go_wp2_with fail
  refine (HI.out _ (HE.out _ B4.out)).mono ?_
  rintro e w5 ⟨h0, rfl, hr, hb⟩
  have R5 := Lib.hid (R4.out.keep hb)
  have R05 := Lib.hid (R04.out.keep hb)
  have RH := Lib.hid hr
  have B5 := Lib.hid (B4.out.trans (hb.mono B4.out.size))
  clear hr hb
  go_wp2_with fail
  refine (eqS h0 v0 Ls _ _ w5 RH.out R05.out (by have := HN.out.2.1; omega)).mono ?_
  rintro e w5' ⟨rfl, hb⟩
  have R5' := Lib.hid (R5.out.keep hb)
  have B5' := Lib.hid (B5.out.trans (hb.mono B5.out.size))
  clear hb
  go_wp2_with fail
  refine (heldS g0 K _ _ R5'.out (by omega)).mono ?_
  rintro e w6 ⟨rfl, hb⟩
  have B6 := Lib.hid (B5'.out.trans (hb.mono B5'.out.size))
  clear hb
  go_wp2
  go_ret
  exact ⟨rfl, B6.out⟩

end Go.Proofs.YtlbjeiaihenjkaaGreatDoor
