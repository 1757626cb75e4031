/-
  Words of parities and how many letters 1 they have: the program's answers.
-/
import Derived.Test.YtbgnieajeipllaaYN
namespace Go.Proofs.Ytbgnieajeipllaa
open Go.RowKit
set_option linter.unusedVariables false
set_option linter.unusedSimpArgs false
set_option maxRecDepth 100000

def code (x : Int) : Int := if x % 2 = 0 then 48 else 49
theorem code_let (x : Int) : UInt8.ofNat (code x).toNat = let1 x := by unfold code let1; split <;> rfl
theorem codes_str (l zs : List Int) (h : zs = l.map code) : strOfNums zs = ⟨(lts l).toArray⟩ := by
  subst h
  unfold strOfNums
  congr 2
  rw [List.map_map]
  unfold lts
  exact List.map_congr_left (fun x _ => code_let x)

theorem set_code (l zs : List Int) (j : Nat) (h : j < l.length) (hz : zs.length = l.length) (ht : zs.take j = (l.take j).map code) : (zs.set j (code l[j])).take (j + 1) = (l.take (j + 1)).map code := by
  rw [take_snoc' l j h, List.map_append, ← ht, take_snoc' (zs.set j (code l[j])) j (by rw [List.length_set]; omega), List.take_set_of_le (Nat.le_refl _)]
  simp

theorem impl_ParityWord (n k : Int) (w : World) :
    Calls Try.prog 31 #[.int .i64 n, .int .i64 k] w fun e w' => e = .returned (resW (RWd n k)) ∧ Below w.heap.size w w' := by
  by_cases hn : Nst n
  · have a1 : decide (Nst n) = true := decide_eq_true hn
    by_cases hk : 0 ≤ k ∧ k ≤ 20
    · have A2 := Lib.hid (wl_yes hk.1 hk.2)
      have A1 := Lib.hid (asked_yes hn hk.1 hk.2)
      obtain ⟨c, rfl⟩ : ∃ c : Nat, k = (c : Int) := ⟨k.toNat, by omega⟩
      have hc : c ≤ 20 := by omega
      obtain ⟨X, hX⟩ : ∃ X, shs c n = X := ⟨_, rfl⟩
      have HR := Lib.hid (show RWd n (c : Int) = X.map lts by rw [RWd_yes A1.out rfl, hX])
      have HW := Lib.hid (fun w' => short_impl hn (by omega) hX (k := (c : Int)) rfl w')
      cases X with
      | none =>
        clear hX hk hn
        go_enter Try.func31, Try.ntmps31
        go_wp2_with (first | (go_at_call 57; refine (isStart_any _ _).mono ?_; rintro e w1 ⟨rfl, rfl⟩) | (go_at_call 66; refine (isWordLength_any _ _).mono ?_; rw [A2.out]; rintro e w1 ⟨rfl, rfl⟩) | (go_at_call 67; refine (HW.out _).mono ?_; rintro e w1 ⟨v, rfl, hr, hb⟩; have HB := Lib.hid hb; clear hr hb))
        go_ret2
        exact ⟨by rw [HR.out]; rfl, HB.out⟩
      | some l =>
        have hll := (shs_len _ _ _ hX).1
        have HNL := Lib.hid (shs_len _ _ _ hX).2
        have HLL := Lib.hid hll
        clear hX hk hn
        go_enter Try.func31, Try.ntmps31
        go_wp2_with (first | (go_at_call 57; refine (isStart_any _ _).mono ?_; rintro e w1 ⟨rfl, rfl⟩) | (go_at_call 66; refine (isWordLength_any _ _).mono ?_; rw [A2.out]; rintro e w1 ⟨rfl, rfl⟩))
        refine (HW.out _).mono ?_
        rintro e w1 ⟨v, rfl, hr, hb⟩
        have HB := Lib.hid hb
        obtain ⟨a5, c5, rfl, hgs⟩ : ∃ a cap, v = .slice a l.length cap ∧ (∀ j, j < l.length → ∃ g, a = some ⟨g, 0, none⟩ ∧ g < w1.heap.size) := by
          rcases hr.cases with ⟨hv, hx⟩ | ⟨g, cap, hu, _, hg, _⟩
          · simp only [Option.getD_some] at hx
            subst hx
            exact ⟨none, 0, hv, fun j hj => by simp at hj⟩
          · exact ⟨_, cap, hu, fun j _ => ⟨g, rfl, hg⟩⟩
        have HGS := Lib.hid hgs
        have HRL := Lib.hid hr
        clear hr hb hgs
        rw [hll] at HGS HRL ⊢
        clear hll
        go_wp2_with (at_make; refine wpList_mkG rfl _ _ 49 5 (.int .u8 0) 1 Try.underlying49 infoByte (by decide) rfl rfl .i64 .i64 _ _ c rfl rfl rfl rfl (by omega) ?_; intro w2 hr2 hg2 hb2; have R2 := Lib.hid hr2; have B2 := Lib.hid (Below.step HB.out HB.out.size hb2); have RL2 := Lib.hid (HRL.out.keep hb2); have HBM := Lib.hid hb2; clear hr2 hg2 hb2)
        go_loopw [31] (fun i wr => ∃ (j : Nat) (zs : List Int), j ≤ c ∧ i = .int .i64 j ∧ Hid (zs.length = c) ∧ Hid (zs.take j = (l.take j).map code) ∧ Rg 5 wr w1.heap.size (.slice (some ⟨w1.heap.size, 0, none⟩) c c) (zs.map (Value.int .u8)) ∧ Below w.heap.size w wr ∧ Below w1.heap.size w1 wr) (fun i _ => c - (intOf i).toNat)
        case atStart => exact ⟨0, List.replicate c 0, Nat.zero_le _, rfl, Lib.hid (by simp), Lib.hid (by simp), by simpa using R2.out, B2.out, HBM.out⟩
        case round =>
          obtain ⟨j, zs, hj, rfl, HZL, HZT, hrz, hbl, hb1⟩ := hrel
          have RZ := Lib.hid hrz
          have HB2 := Lib.hid hbl
          have HB1 := Lib.hid hb1
          clear hrz hbl hb1
          by_cases hlt : j < c
          · obtain ⟨g5, rfl, hg5⟩ := HGS.out j hlt
            have hjl : j < l.length := by rw [HLL.out]; exact hlt
            have hcell : wr.cell? ⟨g5, j, none⟩ = some (.int .i64 (l[j]'hjl)) := by
              rw [HB1.out.cell (p := ⟨g5, j, none⟩) hg5]
              exact HRL.out.at.2.2.2.2.1 j hjl
            have hjz : j < (zs.map (Value.int .u8)).length := by rw [List.length_map, HZL.out]; exact hlt
            have hcz := RZ.out.at.2.2.2.2.2.1 j hjz
            have hfz := RZ.out.at.2.2.2.2.2.2 j
            have HSC := Lib.hid (set_code l zs j hjl (by rw [HZL.out, HLL.out]) HZT.out)
            have hx0 := (HNL.out _ (List.getElem_mem hjl)).1
            obtain ⟨x, hx⟩ : ∃ x, x = l[j]'hjl := ⟨_, rfl⟩
            rw [← hx] at hcell HSC hx0
            obtain ⟨z, hz⟩ : ∃ z, z = (zs.map (Value.int .u8))[j]'hjz := ⟨_, rfl⟩
            rw [← hz] at hcz
            clear hx hz
            by_cases hpar : x % 2 = 0
            · have hcd : code x = 48 := if_pos hpar
              have htm : x.tmod 2 = 0 := by rw [Int.tmod_eq_emod_of_nonneg (by omega)]; exact hpar
              have HST := Lib.hid (RZ.out.set j (.int .u8 48))
              rw [hcd] at HSC
              clear hcd
              go_wp2
              go_roundw
              case rel => exact ⟨j + 1, zs.set j 48, by omega, by go_num, Lib.hid (by rw [List.length_set, HZL.out]), HSC, by rw [List.map_set]; exact HST.out.1, HB2.out.trans (grown_below HST.out.2 HB2.out.size HB.out.size), HB1.out.trans (grown_below HST.out.2 HB1.out.size (Nat.le_refl _))⟩
              case measure => simp [intOf]; omega
            · have hcd : code x = 49 := if_neg hpar
              have htm : x.tmod 2 = 1 := by rw [Int.tmod_eq_emod_of_nonneg (by omega)]; omega
              have HST := Lib.hid (RZ.out.set j (.int .u8 49))
              rw [hcd] at HSC
              clear hcd hpar
              go_wp2
              go_roundw
              case rel => exact ⟨j + 1, zs.set j 49, by omega, by go_num, Lib.hid (by rw [List.length_set, HZL.out]), HSC, by rw [List.map_set]; exact HST.out.1, HB2.out.trans (grown_below HST.out.2 HB2.out.size HB.out.size), HB1.out.trans (grown_below HST.out.2 HB1.out.size (Nat.le_refl _))⟩
              case measure => simp [intOf]; omega
          · obtain rfl : j = c := by omega
            have HZE := Lib.hid (show zs = l.map code by
              have h := HZT.out
              rwa [List.take_of_length_le (by rw [HZL.out]; exact Nat.le_refl _), List.take_of_length_le (by rw [HLL.out]; exact Nat.le_refl _)] at h)
            have hcv := run_convert_bytes_arg (P := Try.prog) wr 49 5 Try.underlying49 Try.underlying5 w1.heap.size 0 j j zs HZL.out (fun i hi => by
              have h := RZ.out.at.2.2.2.2.2.1 i (by rw [List.length_map, HZL.out]; exact hi)
              rw [Nat.zero_add, h]
              simp [show i < zs.length by rw [HZL.out]; exact hi]) 9 Try.underlying9
            rw [codes_str l zs HZE.out] at hcv
            go_wp2
            go_ret2
            exact ⟨by rw [HR.out]; rfl, HB2.out⟩
    · have A2 := Lib.hid (wl_no hk)
      have HR := Lib.hid (RWd_no (asked_no2 (n := n) hk))
      clear hn hk
      go_enter Try.func31, Try.ntmps31
      go_wp2_with (first | (go_at_call 57; refine (isStart_any _ _).mono ?_; rintro e w1 ⟨rfl, rfl⟩) | (go_at_call 66; refine (isWordLength_any _ _).mono ?_; rw [A2.out]; rintro e w1 ⟨rfl, rfl⟩))
      go_ret2
      exact ⟨by rw [HR.out]; rfl, Below.refl _ _⟩
  · have a1 : decide (Nst n) = false := decide_eq_false hn
    have HR := Lib.hid (RWd_no (asked_no1 (k := k) hn))
    clear hn
    go_enter Try.func31, Try.ntmps31
    go_wp2_with (go_at_call 57; refine (isStart_any _ _).mono ?_; rintro e w1 ⟨rfl, rfl⟩)
    go_ret2
    exact ⟨by rw [HR.out]; rfl, Below.refl _ _⟩

theorem law_ParityWord (n d : Int) (w : World) :
    Calls Try.prog 8 #[.int .i64 n, .int .i64 d] w fun e w' => e = .returned (.bool true) ∧ Below w.heap.size w w' := by
  obtain ⟨o, ho⟩ : ∃ o, o = RWd n d := ⟨_, rfl⟩
  have H1 := Lib.hid (fun w' => spec_ParityWord n d w')
  have H2 := Lib.hid (fun w' => impl_ParityWord n d w')
  rw [← ho] at H1 H2
  clear ho
  obtain ⟨s, hs⟩ : ∃ s : ByteArray, s = ⟨(o.getD []).toArray⟩ := ⟨_, rfl⟩
  obtain ⟨b, hb⟩ : ∃ b : Bool, b = o.isSome := ⟨_, rfl⟩
  have HV := Lib.hid (show resW o = .tuple #[.string s, .bool b] by rw [hs, hb]; rfl)
  rw [HV.out] at H1 H2
  clear hs hb
  go_enter Try.func8, Try.ntmps8
  go_wp2_with (first | (go_at_call 30; refine (H1.out _).mono ?_; rintro e w1 ⟨rfl, hbl⟩; have HB1 := Lib.hid hbl; clear hbl) | (go_at_call 31; refine (H2.out _).mono ?_; rintro e w2 ⟨rfl, hbl⟩; have HB2 := Lib.hid hbl; clear hbl))
  go_ret
  exact ⟨by simp, Below.step HB1.out HB1.out.size HB2.out⟩

end Go.Proofs.Ytbgnieajeipllaa
