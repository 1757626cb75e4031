/-
  Joint text of C5, C6, C7, C8, C9: what each proves stands ahead of it.
-/
import Derived.Test.YtlbjeiaihenjkaaGreatDoorJ43
import Derived.Test.YtlbjeiaihenjkaaGreatDoorJ29
import Derived.Deep.Heap
import Derived.Test.YtlbjeiaihenjkaaGreatDoorJ42
/- from C5: Scripts, plain: what a script is, what its lines leave behind, one after the other.  -/
namespace Go.Proofs.YtlbjeiaihenjkaaGreatDoor
open Go.RowKit
set_option linter.unusedVariables false
set_option linter.unusedSimpArgs false
set_option maxRecDepth 100000

/-- A desk's two numbers. -/
def dkI (r : Int × Int × Rp) : Prop := Num r.1 ∧ Bas r.2.1
theorem bec_dk {n b : Int} (hN : Num n) (hB : Bas b) {o : Option Int} (h : ∀ m, o = some m → Num m) : dkI (becF n b o) := by
  cases o with
  | none => exact ⟨hN, hB⟩
  | some m => exact ⟨h m rfl, hB⟩
theorem say_dk {n b : Int} (hN : Num n) (hB : Bas b) (o : Option Tx) : dkI (sayF n b o) := by cases o <;> exact ⟨hN, hB⟩
theorem num_dk {n b : Int} (hN : Num n) (hB : Bas b) (o : Option Int) : dkI (numR n b o) := say_dk hN hB _
theorem lst_dk {n b : Int} (hN : Num n) (hB : Bas b) (ok : Bool) (l : List Int) : dkI (lstF n b ok l) := say_dk hN hB _
theorem ite_dk {P : Prop} [Decidable P] {x y : Int × Int × Rp} (h1 : dkI x) (h2 : dkI y) : dkI (if P then x else y) := by
  by_cases h : P
  · rw [if_pos h]; exact h1
  · rw [if_neg h]; exact h2
theorem alone_dk {n b : Int} (hN : Num n) (hB : Bas b) (x : Tx) : dkI (aloneF n b x) :=
  ite_dk (bec_dk hN hB fun m hm => rev_rng hm) <| ite_dk (bec_dk hN hB fun m hm => up_rng hm) <| ite_dk (bec_dk hN hB fun m hm => down_rng hm) <|
  ite_dk (bec_dk hN hB fun m hm => step_rng hm) <| ite_dk (bec_dk hN hB fun m hm => short_rng hm) <| ite_dk (bec_dk hN hB fun m hm => next_rng hm) <|
  ite_dk ⟨hN, hB⟩ <| ite_dk (lst_dk hN hB _ _) <| ite_dk (num_dk hN hB _) <| ite_dk (num_dk hN hB _) <| ite_dk (num_dk hN hB _) <| ite_dk ⟨hN, hB⟩ <| ite_dk (num_dk hN hB _) ⟨hN, hB⟩
theorem num2_dk {n b : Int} (hN : Num n) (hB : Bas b) (x : Tx) (k : Int) : dkI (numF2 n b x k) := by
  refine ite_dk ?_ <| ite_dk (bec_dk hN hB fun m hm => pow_rng hm) <| ite_dk (lst_dk hN hB _ _) <| ite_dk (lst_dk hN hB _ _) <| ite_dk (say_dk hN hB _) ⟨hN, hB⟩
  by_cases h : Bas k
  · rw [if_pos h]; exact ⟨hN, h⟩
  · rw [if_neg h]; exact ⟨hN, hB⟩
theorem with_dk {n b : Int} (hN : Num n) (hB : Bas b) (x y : Tx) : dkI (withF n b x y) := by
  refine ite_dk ?_ <| ite_dk (ite_dk (num_dk hN hB _) ⟨hN, hB⟩) ?_
  · cases h : RParse b y with
    | some m => exact bec_dk hN hB fun k hk => by cases hk; exact (parse_rng h).1
    | none => exact ⟨hN, hB⟩
  · cases h : rdN y with
    | some k => exact num2_dk hN hB _ _
    | none => exact ⟨hN, hB⟩
theorem line_dk {n b : Int} (hN : Num n) (hB : Bas b) (ws : List Tx) : dkI (lineF n b ws) := by
  unfold lineF
  split
  · exact alone_dk hN hB _
  · exact with_dk hN hB _ _
  · exact ⟨hN, hB⟩

/-- One line of a script. -/
def ln1 (n b : Int) (l : Tx) : Int × Int × Rp := lineF n b (spl 32 l)
/-- What a script's lines leave behind, one after the other. -/
def runS : Int → Int → List Tx → List (Int × Int × Rp)
  | _, _, [] => []
  | n, b, l :: ls => ln1 n b l :: runS (ln1 n b l).1 (ln1 n b l).2.1 ls
/-- The desk behind them. -/
def endS : Int → Int → List Tx → Int × Int
  | n, b, [] => (n, b)
  | n, b, l :: ls => endS (ln1 n b l).1 (ln1 n b l).2.1 ls
theorem runS_len : ∀ (ls : List Tx) (n b : Int), (runS n b ls).length = ls.length
  | [], _, _ => rfl
  | l :: ls, n, b => by simp [runS, runS_len ls]
theorem runS_snoc : ∀ (ls : List Tx) (n b : Int) (l : Tx), runS n b (ls ++ [l]) = runS n b ls ++ [ln1 (endS n b ls).1 (endS n b ls).2 l]
  | [], _, _, _ => rfl
  | x :: ls, n, b, l => by simp [runS, endS, runS_snoc ls]
theorem endS_snoc : ∀ (ls : List Tx) (n b : Int) (l : Tx), endS n b (ls ++ [l]) = ((ln1 (endS n b ls).1 (endS n b ls).2 l).1, (ln1 (endS n b ls).1 (endS n b ls).2 l).2.1)
  | [], _, _, _ => rfl
  | x :: ls, n, b, l => by simp [endS, endS_snoc ls]
theorem endS_dk : ∀ (ls : List Tx) (n b : Int), Num n → Bas b → Num (endS n b ls).1 ∧ Bas (endS n b ls).2
  | [], _, _, h1, h2 => ⟨h1, h2⟩
  | l :: ls, n, b, h1, h2 => endS_dk ls _ _ (line_dk h1 h2 _).1 (line_dk h1 h2 _).2

/-- A text that is a script: its lines. -/
def scL (S : Tx) : List Tx := (spl 10 S).take (S.count 10)
def scOk (S : Tx) : Prop := S.length ≤ 3000 ∧ (spl 10 S).getLast? = some [] ∧ S.count 10 ≤ 50
instance (S : Tx) : Decidable (scOk S) := by unfold scOk; exact inferInstance
theorem spl_len (c : UInt8) (S : Tx) : (spl c S).length = S.count c + 1 := spA_len c S []
theorem spl_last (c : UInt8) (S : Tx) : (spl c S).getLast? = (spl c S)[S.count c]? := by
  rw [List.getLast?_eq_getElem?, spl_len]; rfl
theorem spl_at (c : UInt8) (S : Tx) : ∃ x, (spl c S)[S.count c]? = some x ∧ (spl c S).getLast? = some x := by
  have h : S.count c < (spl c S).length := by rw [spl_len]; omega
  exact ⟨(spl c S)[S.count c], List.getElem?_eq_getElem h, by rw [spl_last]; exact List.getElem?_eq_getElem h⟩
theorem scL_len (S : Tx) : (scL S).length = S.count 10 := by unfold scL; rw [List.length_take, spl_len]; omega
theorem scL_at (S : Tx) (k : Nat) (h : k < S.count 10) : ∃ x, (spl 10 S)[k]? = some x ∧ (scL S)[k]? = some x ∧ (scL S).take (k + 1) = (scL S).take k ++ [x] ∧ x.length ≤ S.length := by
  have hl : k < (scL S).length := by rw [scL_len]; exact h
  have h2 : k < (spl 10 S).length := by rw [spl_len]; omega
  have e : (spl 10 S)[k] = (scL S)[k] := (List.getElem_take (h := hl)).symm
  refine ⟨(scL S)[k], by rw [List.getElem?_eq_getElem h2, e], List.getElem?_eq_getElem hl, ?_, ?_⟩
  · rw [List.take_add_one, List.getElem?_eq_getElem hl]; rfl
  · have := spA_mem 10 S [] (spl 10 S)[k] (List.getElem_mem h2)
    rw [e] at this
    simpa using this

end Go.Proofs.YtlbjeiaihenjkaaGreatDoor

/- from C6: The model runs a script.  -/
namespace Go.Proofs.YtlbjeiaihenjkaaGreatDoor
open Go.RowKit
set_option linter.unusedVariables false
set_option linter.unusedSimpArgs false
set_option maxRecDepth 100000

/-- A script's parts, in a block of their own. -/
theorem parts_any (S : Tx) (hs : S.length ≤ 1000000) (K : Nat) (hK : K = S.count 10) (w : World) : Calls Tryz.prog 34 #[str S, .int .u8 10] w fun e w' => ∃ g cap, e = .returned (.slice (some ⟨g, 0, none⟩) (K + 1) cap) ∧
    (∀ j x, (spl 10 S)[j]? = some x → w'.cell? ⟨g, j, none⟩ = some (str x)) ∧ w.heap.size ≤ g ∧ g < w'.heap.size ∧ K + 1 ≤ cap ∧ Below w.heap.size w w' := by
  refine (l1Split_any S 10 10 rfl hs w).mono ?_
  rintro e w' ⟨g, cap, rfl, hr, hb⟩
  obtain ⟨-, hg0, hg1, hcap, -, hcells, -⟩ := hr.at
  rw [List.length_map, spl_len] at hcap
  refine ⟨g, cap, by rw [spl_len, hK], fun j x hx => ?_, hg0, hg1, by omega, hb⟩
  have hl : j < (spl 10 S).length := (List.getElem?_eq_some_iff.1 hx).1
  rw [hcells j (by rw [List.length_map]; exact hl), List.getElem_map, (List.getElem?_eq_some_iff.1 hx).2]

theorem Rg.aside {e : TypeId} {w : World} {B : Nat} {v : Value} {xs : List Value} (h : Rg e w B v xs) {a : Addr} (ha : a.block < B) (u : Value) : Rg e (w.setCell a u) B v xs := by
  refine ⟨h.1, ?_⟩
  rcases h.2 with h2 | ⟨g, cap, cur, hv, hg, hh, r⟩
  · exact .inl h2
  · exact .inr ⟨g, cap, cur, hv, hg, by rw [Deep.blk_setCell_other _ _ _ _ (by omega)]; exact hh, r⟩

theorem coRun_ok (S : Tx) (h1 : S.length ≤ 3000) (h2 : (spl 10 S)[S.count 10]? = some []) (h3 : S.count 10 ≤ 50) (w : World) :
    Calls Tryz.prog 39 #[str S] w fun e w' => ∃ v, e = .returned (.tuple #[dsk (endS 7 10 (scL S)).1 (endS 7 10 (scL S)).2, v, .bool true]) ∧ Rg 9 w' w.heap.size v ((runS 7 10 (scL S)).map fun r => str r.2.2.txt) ∧ Below w.heap.size w w' := by
  obtain ⟨K, hK⟩ : ∃ K, K = S.count 10 := ⟨_, rfl⟩
  have HK := Lib.hid (fun w' => parts_any S (by omega) K hK w')
  rw [← hK] at h2 h3
  have HS3 := Lib.hid h1
  have HL2 := Lib.hid h2
  have HKK := Lib.hid hK
  have q3 : ¬ (3000 < (S.length : Int)) := by omega
  clear h1 h2 hK
  go_enter Tryz.func39, Tryz.ntmps39
  go_wp2_with fail
  refine (HK.out _).mono ?_
  rintro e w1 ⟨g, cp, rfl, hc, hg0, hg1, hcap, hb⟩
  have k0 : w1.cell? ⟨g, K, none⟩ = some (str []) := hc K [] HL2.out
  have HG := Lib.hid hc
  have HB := Lib.hid hb
  clear hc hb
  go_wp2_with fail
  refine (spec_FirstDesk _).mono ?_
  rintro e w2 ⟨rfl, hb⟩
  have HB2 := Lib.hid hb
  clear hb k0
  have G2 := Lib.hid (show ∀ j x, (spl 10 S)[j]? = some x → w2.cell? ⟨g, j, none⟩ = some (str x) from fun j x hx => (HB2.out.cell (p := ⟨g, j, none⟩) hg1).trans (HG.out j x hx))
  have hgD : g < w2.heap.size := Nat.lt_of_lt_of_le hg1 HB2.out.size
  have HW2 := Lib.hid (show Below (w.heap.size + 1) (w.alloc (.cells #[.int .i64 0, .int .i64 0] 24)) w2 from (HB.out.mono (by simp)).trans (HB2.out.mono (by have := HB.out.size; simp at this; omega)))
  have HLE := Lib.hid (show w.heap.size + 1 ≤ w2.heap.size by have := HW2.out.size; simpa using this)
  go_wp2
  go_loopw [8, 37] (fun v i wr => ∃ k : Nat, k ≤ K ∧ i = .int .i64 (k : Int) ∧ Rg 9 wr (w2.heap.size + 1) v ((runS 7 10 ((scL S).take k)).map fun r => str r.2.2.txt) ∧ Below w2.heap.size w2 wr ∧ wr.cell? ⟨w2.heap.size, 0, none⟩ = some (.int .i64 (endS 7 10 ((scL S).take k)).1) ∧ wr.cell? ⟨w2.heap.size, 1, none⟩ = some (.int .i64 (endS 7 10 ((scL S).take k)).2) ∧ (∀ j, wr.frozen? ⟨w2.heap.size, j, none⟩ = false) ∧ w2.heap.size + 1 ≤ wr.heap.size) (fun _ i _ => K - (intOf i).toNat)
  case atStart =>
    refine ⟨0, Nat.zero_le _, rfl, by simpa [runS] using Rg.nil _ _ _, ?_, ?_, ?_, ?_, ?_⟩
    · exact alloc_belowD _ _
    · simp [go_sem, endS]
    · simp [go_sem, endS]
    · intro j; simp [go_sem]
    · simp
  case round =>
    obtain ⟨k, hk, rfl, hr, hb, d0, d1, df, hz⟩ := hrel
    by_cases hlt : k < K
    · obtain ⟨x, hx1, hx2, hx3, hx4⟩ := scL_at S k (by have := HKK.out; omega)
      have kx : wr.cell? ⟨g, k, none⟩ = some (str x) := (hb.cell (p := ⟨g, k, none⟩) hgD).trans (G2.out k x hx1)
      obtain ⟨hN, hB⟩ := endS_dk ((scL S).take k) 7 10 ⟨by omega, by omega⟩ ⟨by omega, by omega⟩
      have HT := Lib.hid (runS_snoc ((scL S).take k) 7 10 x)
      have HU := Lib.hid (endS_snoc ((scL S).take k) 7 10 x)
      rw [← hx3] at HT HU
      obtain ⟨n, hn⟩ : ∃ n, n = (endS 7 10 ((scL S).take k)).1 := ⟨_, rfl⟩
      obtain ⟨b, hbb⟩ : ∃ b, b = (endS 7 10 ((scL S).take k)).2 := ⟨_, rfl⟩
      have HX := Lib.hid (coStep_any n b x (by have := HS3.out; omega) (by rw [hn]; exact hN) (by rw [hbb]; exact hB) wr)
      rw [← hn] at d0 HT HU
      rw [← hbb] at d1 HT HU
      have hln : ln1 n b x = lineF n b (spl 32 x) := rfl
      obtain ⟨n', b', rp, hR⟩ : ∃ n' b' rp, lineF n b (spl 32 x) = (n', b', rp) := ⟨_, _, _, rfl⟩
      rw [hln, hR] at HT HU
      rw [hR] at HX
      obtain ⟨Y, hY⟩ : ∃ Y, Y = rp.txt := ⟨_, rfl⟩
      simp only [stV] at HX
      rw [← hY] at HX
      have HY := Lib.hid hY
      have HR := Lib.hid hr
      have HBB := Lib.hid hb
      have HRL := Lib.hid (show ((runS 7 10 ((scL S).take k)).map fun r => str r.2.2.txt).length ≤ 50 by rw [List.length_map, runS_len, List.length_take]; omega)
      have HLT := Lib.hid hlt
      have ZZ := Lib.hid hz
      clear hr hb hx1 hx2 hx3 hx4 hN hB hn hbb hR hY hln
      have hk2 : k ≤ 50 := by omega
      go_wp2_with fail
      refine HX.out.mono ?_
      rintro e w3 ⟨rfl, hb3⟩
      have B3 := Lib.hid hb3
      have e0 := (hb3.cell (p := ⟨w2.heap.size, 0, none⟩) ZZ.out).trans d0
      have e1 := (hb3.cell (p := ⟨w2.heap.size, 1, none⟩) ZZ.out).trans d1
      have ef := fun j => (hb3.frozen (p := ⟨w2.heap.size, j, none⟩) ZZ.out).trans (df j)
      have hDne : w2.heap.size < w3.heap.size := Nat.lt_of_lt_of_le ZZ.out hb3.size
      clear d0 d1 df kx
      obtain ⟨V, hV⟩ : ∃ V, V = (set2 w3 w2.heap.size (.int .i64 n') (.int .i64 b')).alloc (.cells #[.int .i64 n', .int .i64 b'] 24) := ⟨_, rfl⟩
      have hVz : V.heap.size = w3.heap.size + 1 := by rw [hV]; simp [World.setCell]
      have hVB : Below w2.heap.size w2 V := by
        rw [hV]
        exact (set2_below (HBB.out.trans (hb3.mono (Nat.le_of_succ_le ZZ.out))) (Nat.le_refl _) _ _).trans ((alloc_belowD _ _).mono (by simp [World.setCell]; omega))
      have hVR : Rg 9 V (w2.heap.size + 1) u8 ((runS 7 10 ((scL S).take k)).map fun r => str r.2.2.txt) := by
        rw [hV]
        exact (((HR.out.keep hb3).aside (a := ⟨w2.heap.size, 0, none⟩) (by simp) _).aside (a := ⟨w2.heap.size, 1, none⟩) (by simp) _).alloc _
      have hVc : V.cell? ⟨w2.heap.size, 0, none⟩ = some (.int .i64 n') ∧ V.cell? ⟨w2.heap.size, 1, none⟩ = some (.int .i64 b') ∧ ∀ j, V.frozen? ⟨w2.heap.size, j, none⟩ = false := by
        rw [hV]
        have ne : (⟨w2.heap.size, 0, none⟩ : Addr) ≠ ⟨w2.heap.size, 1, none⟩ := fun e => by simp at e
        have ab := alloc_belowD (set2 w3 w2.heap.size (.int .i64 n') (.int .i64 b')) (.cells #[.int .i64 n', .int .i64 b'] 24)
        have hlt2 : w2.heap.size < (set2 w3 w2.heap.size (.int .i64 n') (.int .i64 b')).heap.size := by simp [World.setCell]; omega
        refine ⟨(ab.cell (p := ⟨w2.heap.size, 0, none⟩) hlt2).trans ?_, (ab.cell (p := ⟨w2.heap.size, 1, none⟩) hlt2).trans ?_, fun j => (ab.frozen (p := ⟨w2.heap.size, j, none⟩) hlt2).trans ?_⟩
        · rw [World.cell?_setCell_other _ _ _ _ (Ne.symm ne)]
          exact World.cell?_setCell_same _ _ _ e0
        · exact World.cell?_setCell_same _ _ _ ((World.cell?_setCell_other _ _ _ _ ne).trans e1)
        · simpa [go_sem] using ef j
      have HV := Lib.hid (And.intro hVz (And.intro hVB (And.intro hVR hVc)))
      have hlit := Rg.lit 9 V (w2.heap.size + 1) (str Y) (by rw [hVz]; omega)
      rw [hVz] at hlit
      have HLIT := Lib.hid hlit
      clear hVz hVB hVR hVc hb3 hlit
      simp only [set2] at hV
      go_wp2_with (at_builtin; rw [← hV]; refine wpList_appG rfl _ _ 30 9 (.string ⟨#[]⟩) 16 Tryz.underlying30 infoT (by omega) rfl rfl (w2.heap.size + 1) (w2.heap.size + 1) _ _ _ [str Y] rfl rfl (HV.out.2.2.1.alloc _) HLIT.out (fun z hz => by simp at hz; subst hz; rfl) (by have := HRL.out; simp at this ⊢; omega) (by have := HV.out.1; simp; omega) ?_; intro v' w' hr hg hb; have HR2 := Lib.hid hr; have HB4 := Lib.hid (((alloc_belowD V (.cells #[str Y] 9)).mono (by rw [HV.out.1]; omega)).trans hb); clear hr hg hb)
      go_roundw
      case rel => 
        have hb4 : Below (w2.heap.size + 1) V w' := HB4.out
        refine ⟨k + 1, by have := HLT.out; omega, by go_num, ?_, HV.out.2.1.trans (hb4.mono (by omega)), ?_, ?_, fun j => ?_, ?_⟩
        · rw [HT.out, List.map_append]
          have := HR2.out
          rw [HY.out] at this
          exact this
        · rw [HU.out]; exact (hb4.cell (p := ⟨w2.heap.size, 0, none⟩) (by simp)).trans HV.out.2.2.2.1
        · rw [HU.out]; exact (hb4.cell (p := ⟨w2.heap.size, 1, none⟩) (by simp)).trans HV.out.2.2.2.2.1
        · exact (hb4.frozen (p := ⟨w2.heap.size, j, none⟩) (by simp)).trans (HV.out.2.2.2.2.2 j)
        · have := hb4.size; have h2 := HV.out.1; omega
      case measure => simp [intOf]; omega
    · obtain rfl : k = K := by omega
      have htk : (scL S).take k = scL S := List.take_of_length_le (by rw [scL_len, ← HKK.out]; exact Nat.le_refl _)
      rw [htk] at hr d0 d1
      have HA := Lib.hid (HW2.out.trans (hb.mono HLE.out))
      have HR := Lib.hid hr
      have hwz : w.heap.size + 1 ≤ wr.heap.size := by have := HA.out.size; simpa using this
      have e0 := (HA.out.cell (p := ⟨w.heap.size, 0, none⟩) (by simp)).trans (show (w.alloc (.cells #[.int .i64 0, .int .i64 0] 24)).cell? ⟨w.heap.size, 0, none⟩ = some (.int .i64 0) by simp [go_sem])
      have e1 := (HA.out.cell (p := ⟨w.heap.size, 1, none⟩) (by simp)).trans (show (w.alloc (.cells #[.int .i64 0, .int .i64 0] 24)).cell? ⟨w.heap.size, 1, none⟩ = some (.int .i64 0) by simp [go_sem])
      have ef := fun j => (HA.out.frozen (p := ⟨w.heap.size, j, none⟩) (by simp)).trans (show (w.alloc (.cells #[.int .i64 0, .int .i64 0] 24)).frozen? ⟨w.heap.size, j, none⟩ = false by simp [go_sem])
      have HX := Lib.hid (show Box2 wr w.heap.size from ⟨fun j hj => by
        match j, hj with
        | 0, _ => exact ⟨_, e0⟩
        | 1, _ => exact ⟨_, e1⟩
        | j + 2, h => omega, ef⟩)
      obtain ⟨n', hn⟩ : ∃ n', n' = (endS 7 10 (scL S)).1 := ⟨_, rfl⟩
      obtain ⟨b', hbb⟩ : ∃ b', b' = (endS 7 10 (scL S)).2 := ⟨_, rfl⟩
      rw [← hn] at d0
      rw [← hbb] at d1
      have HN := Lib.hid (And.intro hn hbb)
      clear hr hb htk hn hbb
      go_wp2
      refine bodyPost_ret (ret_dk3 rfl _ _ w.heap.size _ _ rfl HX.out) rfl ?_
      refine ⟨_, by rw [← HN.out.1, ← HN.out.2]; rfl, ((HR.out.aside (a := ⟨w.heap.size, 0, none⟩) (by have := HLE.out; show w.heap.size < _; omega) _).aside (a := ⟨w.heap.size, 1, none⟩) (by have := HLE.out; show w.heap.size < _; omega) _).mono (by have := HLE.out; omega), ?_⟩
      exact set2_below ((alloc_belowD _ _).trans (HA.out.mono (by simp))) (Nat.le_refl _) _ _

end Go.Proofs.YtlbjeiaihenjkaaGreatDoor

/- from C7: The model of scripts: texts that are none; the model's three functions.  -/
namespace Go.Proofs.YtlbjeiaihenjkaaGreatDoor
open Go.RowKit
set_option linter.unusedVariables false
set_option linter.unusedSimpArgs false
set_option maxRecDepth 100000

theorem box_alloc (w : World) (w' : World) (hb : Below (w.heap.size + 1) (w.alloc (.cells #[.int .i64 0, .int .i64 0] 24)) w') : Box2 w' w.heap.size ∧ Below w.heap.size w w' := by
  refine ⟨⟨fun j hj => ?_, fun j => (hb.frozen (p := ⟨w.heap.size, j, none⟩) (by simp)).trans (by simp [go_sem])⟩, (alloc_belowD _ _).trans (hb.mono (by omega))⟩
  rw [hb.cell (p := ⟨w.heap.size, j, none⟩) (by simp)]
  match j, hj with
  | 0, _ => exact ⟨.int .i64 0, by simp [go_sem]⟩
  | 1, _ => exact ⟨.int .i64 0, by simp [go_sem]⟩
  | j + 2, h => omega

theorem coRun_long (S : Tx) (h1 : ¬ S.length ≤ 3000) (w : World) :
    Calls Tryz.prog 39 #[str S] w fun e w' => e = .returned (.tuple #[dsk 0 0, .slice none 0 0, .bool false]) ∧ Below w.heap.size w w' := by
  have q3 : 3000 < (S.length : Int) := by omega
  clear h1
  go_enter Tryz.func39, Tryz.ntmps39
  go_wp2
  refine bodyPost_ret (ret_new3 rfl _ _ w.heap.size 0 0 rfl (by simp [go_sem]) (by simp [go_sem])) rfl ?_
  exact ⟨rfl, by first | exact alloc_belowD _ _ | exact set2_below (alloc_belowD _ _) (Nat.le_refl _) _ _⟩

theorem coRun_last (S : Tx) (h1 : S.length ≤ 3000) (x : Tx) (h2 : (spl 10 S)[S.count 10]? = some x) (hx : x ≠ []) (w : World) :
    Calls Tryz.prog 39 #[str S] w fun e w' => e = .returned (.tuple #[dsk 0 0, .slice none 0 0, .bool false]) ∧ Below w.heap.size w w' := by
  obtain ⟨K, hK⟩ : ∃ K, K = S.count 10 := ⟨_, rfl⟩
  have HK := Lib.hid (fun w' => parts_any S (by omega) K hK w')
  have hkz : K ≤ 3000 := by have := List.count_le_length (a := (10 : UInt8)) (l := S); omega
  rw [← hK] at h2
  have HL2 := Lib.hid h2
  have q3 : ¬ (3000 < (S.length : Int)) := by omega
  have qx : (x == []) = false := by simpa using hx
  have qy : List.isEmpty x = false := by cases x with | nil => exact absurd rfl hx | cons _ _ => rfl
  clear h1 h2 hK hx
  go_enter Tryz.func39, Tryz.ntmps39
  go_wp2_with fail
  refine (HK.out _).mono ?_
  rintro e w1 ⟨g, cp, rfl, hc, hg0, hg1, hcap, hb⟩
  have k0 : w1.cell? ⟨g, K, none⟩ = some (str x) := hc K x HL2.out
  obtain ⟨BX, hb1⟩ := box_alloc w w1 (hb.mono (by simp))
  have HX := Lib.hid BX
  have HB := Lib.hid hb1
  obtain ⟨y0, e0⟩ := BX.cell 0 (by omega)
  obtain ⟨y1, e1⟩ := BX.cell 1 (by omega)
  have ef := BX.free
  clear hc hb BX hb1
  go_wp2
  refine bodyPost_ret (ret_dk3 rfl _ _ w.heap.size _ _ rfl HX.out) rfl ?_
  exact ⟨rfl, set2_below HB.out (Nat.le_refl _) _ _⟩

theorem coRun_many (S : Tx) (h1 : S.length ≤ 3000) (h2 : (spl 10 S)[S.count 10]? = some []) (h3 : ¬ S.count 10 ≤ 50) (w : World) :
    Calls Tryz.prog 39 #[str S] w fun e w' => e = .returned (.tuple #[dsk 0 0, .slice none 0 0, .bool false]) ∧ Below w.heap.size w w' := by
  obtain ⟨K, hK⟩ : ∃ K, K = S.count 10 := ⟨_, rfl⟩
  have HK := Lib.hid (fun w' => parts_any S (by omega) K hK w')
  have hkz : K ≤ 3000 := by have := List.count_le_length (a := (10 : UInt8)) (l := S); omega
  rw [← hK] at h2 h3
  have HL2 := Lib.hid h2
  have q3 : ¬ (3000 < (S.length : Int)) := by omega
  have q5 : 50 < (K : Int) := by omega
  clear h1 h2 hK h3
  go_enter Tryz.func39, Tryz.ntmps39
  go_wp2_with fail
  refine (HK.out _).mono ?_
  rintro e w1 ⟨g, cp, rfl, hc, hg0, hg1, hcap, hb⟩
  have k0 : w1.cell? ⟨g, K, none⟩ = some (str []) := hc K [] HL2.out
  obtain ⟨BX, hb1⟩ := box_alloc w w1 (hb.mono (by simp))
  have HX := Lib.hid BX
  have HB := Lib.hid hb1
  obtain ⟨y0, e0⟩ := BX.cell 0 (by omega)
  obtain ⟨y1, e1⟩ := BX.cell 1 (by omega)
  have ef := BX.free
  clear hc hb BX hb1
  go_wp2
  refine bodyPost_ret (ret_dk3 rfl _ _ w.heap.size _ _ rfl HX.out) rfl ?_
  exact ⟨rfl, set2_below HB.out (Nat.le_refl _) _ _⟩

/-- The lines of a script; none of another text. -/
def scR (S : Tx) : List (Int × Int × Rp) := if scOk S then runS 7 10 (scL S) else []
def scD (S : Tx) : Int × Int := if scOk S then endS 7 10 (scL S) else (0, 0)
theorem coRun_any (S : Tx) (w : World) :
    Calls Tryz.prog 39 #[str S] w fun e w' => ∃ v, e = .returned (.tuple #[dsk (scD S).1 (scD S).2, v, .bool (decide (scOk S))]) ∧ Rg 9 w' w.heap.size v ((scR S).map fun r => str r.2.2.txt) ∧ Below w.heap.size w w' := by
  obtain ⟨x, hx, hl⟩ := spl_at 10 S
  unfold scD scR
  have bad : ¬ scOk S → (Calls Tryz.prog 39 #[str S] w fun e w' => e = .returned (.tuple #[dsk 0 0, .slice none 0 0, .bool false]) ∧ Below w.heap.size w w') → Calls Tryz.prog 39 #[str S] w fun e w' => ∃ v, e = .returned (.tuple #[dsk (if scOk S then endS 7 10 (scL S) else (0, 0)).1 (if scOk S then endS 7 10 (scL S) else (0, 0)).2, v, .bool (decide (scOk S))]) ∧ Rg 9 w' w.heap.size v ((if scOk S then runS 7 10 (scL S) else []).map fun r => str r.2.2.txt) ∧ Below w.heap.size w w' := by
    intro hn hc
    rw [if_neg hn, if_neg hn, decide_eq_false hn]
    exact hc.mono fun e w' ⟨he, hb⟩ => ⟨_, he, Rg.nil _ _ _, hb⟩
  by_cases h1 : S.length ≤ 3000
  · by_cases h2 : x = []
    · subst h2
      by_cases h3 : S.count 10 ≤ 50
      · have hok : scOk S := ⟨h1, hl, h3⟩
        rw [if_pos hok, if_pos hok, decide_eq_true hok]
        exact coRun_ok S h1 hx h3 w
      · exact bad (fun h => h3 h.2.2) (coRun_many S h1 hx h3 w)
    · exact bad (fun h => h2 (Option.some.inj (hl.symm.trans h.2.1))) (coRun_last S h1 x hx h2 w)
  · exact bad (fun h => h1 h.1) (coRun_long S h1 w)

end Go.Proofs.YtlbjeiaihenjkaaGreatDoor

/- from C8: The model's desk behind a script, and its replies.  -/
namespace Go.Proofs.YtlbjeiaihenjkaaGreatDoor
open Go.RowKit
set_option linter.unusedVariables false
set_option linter.unusedSimpArgs false
set_option maxRecDepth 100000

theorem spec_RunScript (S : Tx) (w : World) : Calls Tryz.prog 13 #[str S] w fun e w' => ∃ v, e = .returned (.tuple #[v, .bool (decide (scOk S))]) ∧ Rg 9 w' w.heap.size v ((scR S).map fun r => str r.2.2.txt) ∧ Below w.heap.size w w' := by
  have HC := Lib.hid (coRun_any S)
  obtain ⟨q, hq⟩ : ∃ q, q = decide (scOk S) := ⟨_, rfl⟩
  obtain ⟨n, hn⟩ : ∃ n, n = (scD S).1 := ⟨_, rfl⟩
  obtain ⟨b, hb⟩ : ∃ b, b = (scD S).2 := ⟨_, rfl⟩
  rw [← hq, ← hn, ← hb] at HC
  rw [← hq]
  clear hq hn hb
  go_enter Tryz.func13, Tryz.ntmps13
  go_wp2_with fail
  refine (HC.out _).mono ?_
  rintro e w1 ⟨v, rfl, hr, hb⟩
  have HR := Lib.hid hr
  have HB := Lib.hid hb
  clear hr hb
  go_wp2
  go_ret2
  exact ⟨_, rfl, HR.out.alloc _, HB.out.trans ((alloc_belowD _ _).mono HB.out.size)⟩

theorem spec_DeskAfter (S : Tx) (w : World) : Calls Tryz.prog 18 #[str S] w fun e w' => e = .returned (.tuple #[dsk (scD S).1 (scD S).2, .bool (decide (scOk S))]) ∧ Below w.heap.size w w' := by
  have HC := Lib.hid (coRun_any S)
  by_cases hok : scOk S
  · rw [decide_eq_true hok] at HC ⊢
    obtain ⟨n, hn⟩ : ∃ n, n = (scD S).1 := ⟨_, rfl⟩
    obtain ⟨b, hb⟩ : ∃ b, b = (scD S).2 := ⟨_, rfl⟩
    rw [← hn, ← hb] at HC ⊢
    clear hn hb hok
    go_enter Tryz.func18, Tryz.ntmps18
    go_wp2_with fail
    refine (HC.out _).mono ?_
    rintro e w1 ⟨v, rfl, -, hb⟩
    have hz : w.heap.size + 1 ≤ w1.heap.size := by have := hb.size; simpa using this
    obtain ⟨BX, hb1⟩ := box_alloc w (w1.alloc (.cells #[.int .i64 n, .int .i64 b] 24)) ((hb.mono (by simp)).trans ((alloc_belowD _ _).mono hz))
    have HX := Lib.hid BX
    have HB := Lib.hid hb1
    obtain ⟨y0, e0⟩ := BX.cell 0 (by omega)
    obtain ⟨y1, e1⟩ := BX.cell 1 (by omega)
    have ef := BX.free
    clear hb hz BX hb1
    go_wp2
    refine bodyPost_ret (ret_dk2 rfl _ _ w.heap.size _ _ rfl HX.out) rfl ?_
    exact ⟨rfl, set2_below HB.out (Nat.le_refl _) _ _⟩
  · rw [decide_eq_false hok] at HC ⊢
    have e : scD S = (0, 0) := if_neg hok
    rw [e] at HC ⊢
    clear hok e
    go_enter Tryz.func18, Tryz.ntmps18
    go_wp2_with fail
    refine (HC.out _).mono ?_
    rintro e w1 ⟨v, rfl, -, hb⟩
    have hz : w.heap.size + 1 ≤ w1.heap.size := by have := hb.size; simpa using this
    obtain ⟨BX, hb1⟩ := box_alloc w (w1.alloc (.cells #[.int .i64 0, .int .i64 0] 24)) ((hb.mono (by simp)).trans ((alloc_belowD _ _).mono hz))
    have HX := Lib.hid BX
    have HB := Lib.hid hb1
    obtain ⟨y0, e0⟩ := BX.cell 0 (by omega)
    obtain ⟨y1, e1⟩ := BX.cell 1 (by omega)
    have ef := BX.free
    clear hb hz BX hb1
    go_wp2
    refine bodyPost_ret (ret_dk2 rfl _ _ w.heap.size _ _ rfl HX.out) rfl ?_
    exact ⟨rfl, set2_below HB.out (Nat.le_refl _) _ _⟩

end Go.Proofs.YtlbjeiaihenjkaaGreatDoor

/- from C9: The program's lines of a script.  -/
namespace Go.Proofs.YtlbjeiaihenjkaaGreatDoor
open Go.RowKit
set_option linter.unusedVariables false
set_option linter.unusedSimpArgs false
set_option maxRecDepth 100000

/-- strings.Split at a newline. -/
theorem splitN_any (S : Tx) (hS : S.length ≤ 1000000) (K : Nat) (hK : K = S.count 10) (pn pw : Addr) (w : World) (h : Env w pn pw) :
    Calls Tryz.prog 58 #[str S, .string ⟨#[10]⟩] w fun e w' => ∃ g, e = .returned (.slice (some ⟨g, 0, none⟩) (K + 1) (K + 1)) ∧ (∀ j x, (spl 10 S)[j]? = some x → w'.cell? ⟨g, j, none⟩ = some (str x)) ∧ w.heap.size ≤ g ∧ g < w'.heap.size ∧ Below w.heap.size w w' := by
  refine (split_any 10 S hS pn pw w h).mono ?_
  rintro e w' ⟨g, rfl, hc, hg0, hg1, hb⟩
  refine ⟨g, by rw [spl_len, hK], fun j x hx => ?_, hg0, hg1, hb⟩
  have hl : j < (spl 10 S).length := (List.getElem?_eq_some_iff.1 hx).1
  rw [hc j hl, (List.getElem?_eq_some_iff.1 hx).2]

theorem scriptLines_ok (S : Tx) (h1 : S.length ≤ 3000) (K : Nat) (hK : K = S.count 10) (h2 : (spl 10 S)[K]? = some []) (h3 : K ≤ 50) (pn pw : Addr) (w : World) (h : Env w pn pw) :
    Calls Tryz.prog 64 #[str S] w fun e w' => ∃ g, e = .returned (.tuple #[.slice (some ⟨g, 0, none⟩) K (K + 1), .bool true]) ∧ (∀ j x, (spl 10 S)[j]? = some x → w'.cell? ⟨g, j, none⟩ = some (str x)) ∧ w.heap.size ≤ g ∧ g < w'.heap.size ∧ Below w.heap.size w w' := by
  have HK := Lib.hid (splitN_any S (by omega) K hK pn pw w h)
  have q3 : ¬ (3000 < (S.length : Int)) := by omega
  have q5 : ¬ (50 < (K : Int)) := by omega
  have HL2 := Lib.hid h2
  clear h1 h2 hK h
  go_enter Tryz.func64, Tryz.ntmps64
  go_wp2_with fail
  refine HK.out.mono ?_
  rintro e w1 ⟨g, rfl, hc, hg0, hg1, hb⟩
  have k0 : w1.cell? ⟨g, K, none⟩ = some (str []) := hc K [] HL2.out
  have HC := Lib.hid hc
  have HB := Lib.hid hb
  clear hc hb
  go_wp2
  go_ret2
  exact ⟨g, rfl, HC.out, hg0, hg1, HB.out⟩
theorem scriptLines_long (S : Tx) (h1 : ¬ S.length ≤ 3000) (w : World) :
    Calls Tryz.prog 64 #[str S] w fun e w' => e = .returned (.tuple #[.slice none 0 0, .bool false]) ∧ w' = w := by
  have q3 : 3000 < (S.length : Int) := by omega
  clear h1
  go_enter Tryz.func64, Tryz.ntmps64
  go_wp2
  go_ret2
  exact ⟨rfl, rfl⟩
theorem scriptLines_many (S : Tx) (h1 : S.length ≤ 3000) (K : Nat) (hK : K = S.count 10) (h3 : ¬ K ≤ 50) (pn pw : Addr) (w : World) (h : Env w pn pw) :
    Calls Tryz.prog 64 #[str S] w fun e w' => e = .returned (.tuple #[.slice none 0 0, .bool false]) ∧ Below w.heap.size w w' := by
  have HK := Lib.hid (splitN_any S (by omega) K hK pn pw w h)
  have hkz : K ≤ 3000 := by have := List.count_le_length (a := (10 : UInt8)) (l := S); omega
  have q3 : ¬ (3000 < (S.length : Int)) := by omega
  have q5 : 50 < (K : Int) := by omega
  clear h1 hK h h3
  go_enter Tryz.func64, Tryz.ntmps64
  go_wp2_with fail
  refine HK.out.mono ?_
  rintro e w1 ⟨g, rfl, hc, hg0, hg1, hb⟩
  have HB := Lib.hid hb
  clear hc hb
  go_wp2
  go_ret2
  exact ⟨rfl, HB.out⟩
theorem scriptLines_last (S : Tx) (h1 : S.length ≤ 3000) (K : Nat) (hK : K = S.count 10) (h3 : K ≤ 50) (x : Tx) (h2 : (spl 10 S)[K]? = some x) (hx : x ≠ []) (pn pw : Addr) (w : World) (h : Env w pn pw) :
    Calls Tryz.prog 64 #[str S] w fun e w' => e = .returned (.tuple #[.slice none 0 0, .bool false]) ∧ Below w.heap.size w w' := by
  have HK := Lib.hid (splitN_any S (by omega) K hK pn pw w h)
  have q3 : ¬ (3000 < (S.length : Int)) := by omega
  have q5 : ¬ (50 < (K : Int)) := by omega
  have qx : (x == []) = false := by simpa using hx
  have qy : List.isEmpty x = false := by cases x with | nil => exact absurd rfl hx | cons _ _ => rfl
  have HL2 := Lib.hid h2
  clear h1 hK h h2 hx
  go_enter Tryz.func64, Tryz.ntmps64
  go_wp2_with fail
  refine HK.out.mono ?_
  rintro e w1 ⟨g, rfl, hc, hg0, hg1, hb⟩
  have k0 : w1.cell? ⟨g, K, none⟩ = some (str x) := hc K x HL2.out
  have HB := Lib.hid hb
  clear hc hb
  go_wp2
  go_ret2
  exact ⟨rfl, HB.out⟩

end Go.Proofs.YtlbjeiaihenjkaaGreatDoor
