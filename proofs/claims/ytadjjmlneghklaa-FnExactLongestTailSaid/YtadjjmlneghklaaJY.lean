/-
  The model's run of a word: its words, and where its cycle begins.
-/
import Derived.Test.YtadjjmlneghklaaJX
namespace Go.Proofs.Ytadjjmlneghklaa
open Go.RowKit
set_option linter.unusedVariables false
set_option linter.unusedSimpArgs false
set_option maxRecDepth 100000

/-- The first n words of a run. -/
def rls (F : Nat → List Int) (n : Nat) : List (List Int) := (List.range n).map F
theorem rls_len (F : Nat → List Int) (n : Nat) : (rls F n).length = n := by simp [rls]
theorem rls_succ (F : Nat → List Int) (n : Nat) : rls F (n + 1) = rls F n ++ [F n] := by simp [rls, List.range_succ]
theorem rls_get (F : Nat → List Int) {n j : Nat} (h : j < n) : (rls F n)[j]? = some (F j) := by simp [rls, h]
theorem rls_mem {F : Nat → List Int} {n : Nat} {l : List Int} (h : l ∈ rls F n) : ∃ j, j < n ∧ F j = l := by simpa [rls] using h

/-- What a run is: its words, how many they are, how many are in no cycle. -/
structure Rn (F : Nat → List Int) (L T V : Nat) (b : Int) : Prop where
  lenL : L ≤ 3877
  tl : T < L
  ne : ∀ i j, i < j → j < L → F i ≠ F j
  nt : ∀ i, i < T → F i ≠ F L
  yt : F T = F L
  len : ∀ j, (F j).length = V
  all : ∀ j, ∀ x ∈ F j, 0 ≤ x ∧ x ≤ b - 1
  succ : ∀ k, F (k + 1) = wd b V (stv b (F k))
theorem rn_of {V M v : Nat} {b : Int} (hM : b = ((M + 1 : Nat) : Int)) (hM1 : 1 ≤ M) (hM15 : M ≤ 15) (hV : V ≤ 8) (hv : (v : Int) < b ^ V) : Rn (rw' b V v) (rl (sN b V) RM v) (tl (sN b V) RM v) V b := by
  have hb2 : 2 ≤ b := by omega
  have hb16 : b ≤ 16 := by omega
  have HEX := bk_ex hM hM1 hM15 hV v
  obtain ⟨s1, s2, s3, s4, s5, s6⟩ := rl_spec HEX
  exact ⟨by unfold RM at s2 ⊢; exact s2, s3, fun i j h1 h2 h3 => s6 i j h1 h2 ((rw_inj hb2 hb16 hV hv).1 h3), fun i h1 h3 => s5 i h1 ((rw_inj hb2 hb16 hV hv).1 h3), (rw_inj hb2 hb16 hV hv).2 s4,
    rw_len b V v, rw_all hb2 V v, rw_succ hb2 hb16 hV v⟩

def lenY : Value → Nat
  | .slice _ n _ => n
  | _ => 0
theorem LLi.lenY {w : World} {B : Nat} {v : Value} {vs : List Value} {ls : List (List Int)} (h : LLi w B v vs ls) : ∃ a cap, v = .slice a ls.length cap := by
  rcases h.row.cases with ⟨rfl, h0⟩ | ⟨g, c, rfl⟩
  · have := h.len; rw [h0] at this; simp at this; rw [← this]; exact ⟨_, _, rfl⟩
  · rw [h.len]; exact ⟨_, _, rfl⟩

set_option maxHeartbeats 1000000 in
theorem gpRun_any (u0 : Value) (F : Nat → List Int) (L T V : Nat) (b : Int) (B : Nat) (w : World) (h : Rd w B u0 (F 0)) (hR : Rn F L T V b) (hb2 : 2 ≤ b) (hb16 : b ≤ 16) (hV : V ≤ 8) :
    Calls Try.prog 54 #[u0, .int .i64 b] w fun e w' => ∃ g c vs, e = .returned (.tuple #[.slice (some ⟨g, 0, none⟩) L c, .int .i64 (T : Int)]) ∧ LLi w' w.heap.size (.slice (some ⟨g, 0, none⟩) L c) vs (rls F L) ∧ Below w.heap.size w w' := by
  have H := Lib.hid h
  have HR := Lib.hid hR
  have hL := hR.lenL
  have hT := hR.tl
  obtain ⟨a0, c0, rfl⟩ := h.sl.len
  clear h hR
  go_enter Try.func54, Try.ntmps54
  go_wp2_with fail
  refine (l1Own_any _ (F 0) _ _ H.out (by rw [HR.out.len]; omega)).mono ?_
  rintro e w1 ⟨u1, rfl, hr1, hb1⟩
  have R1 := Lib.hid hr1
  have B1 := Lib.hid hb1
  clear hr1 hb1
  go_wp2
  go_loopw [6, 7] (fun o u wr => ∃ (k : Nat) (vs : List Value), k ≤ L ∧ LLi wr w.heap.size o vs (rls F k) ∧ Rd wr w.heap.size u (F k) ∧ (∀ (i : Nat) (z : Value), vs[i]? = some z → z.ownBlock = none ∨ z.ownBlock ≠ u.ownBlock) ∧ Below w.heap.size w wr) (fun o _ _ => L + 1 - lenY o)
  case atStart => exact ⟨0, [], Nat.zero_le _, LLi.nil _ _, R1.out, fun i z hz => by simp at hz, B1.out⟩
  case round =>
    obtain ⟨k, vs, hk, hv, hu, hap, hbl⟩ := hrel
    have HV := Lib.hid hv
    have HU := Lib.hid hu
    have HAP := Lib.hid hap
    have HB := Lib.hid hbl
    obtain ⟨a6, c6, rfl⟩ := hv.lenY
    obtain ⟨a7, c7, rfl⟩ := hu.sl.len
    clear hv hu hap hbl
    have HLN := Lib.hid (rls_len F k)
    have HF8 := Lib.hid (fun j => show (F j).length ≤ 8 by rw [HR.out.len]; exact hV)
    have HFD := Lib.hid (fun (t : Nat) (w' : World) (h : LLi w' w.heap.size (.slice a6 (rls F k).length c6) vs (rls F k)) (h2 : Sl w' (.slice a7 (F k).length c7) (F k)) (ht : t ≤ k) (hno : ∀ j, j < t → F j ≠ F k) (hyes : t < k → F t = F k) =>
      gpFind_any _ _ vs (rls F k) (F k) t _ w' h h2 (HF8.out k) (fun l hl => by obtain ⟨j, _, rfl⟩ := rls_mem hl; exact HF8.out j) (by rw [HLN.out]; exact ht) (fun j hj => by rw [rls_get F (by omega)]; exact fun e => hno j hj (by simpa using e)) (fun hlt => by rw [HLN.out] at hlt; rw [rls_get F hlt, hyes hlt]) (by rw [HLN.out]; omega))
    rw [HLN.out] at HFD HV
    rw [HLN.out]
    by_cases hkL : k < L
    · go_wp2_with fail
      refine (HFD.out k _ HV.out HU.out.sl (Nat.le_refl _) (fun j hj => HR.out.ne j k hj hkL) (fun h => absurd h (Nat.lt_irrefl _))).mono ?_
      rw [if_neg (Nat.lt_irrefl _)]
      rintro e w2 ⟨rfl, hb2⟩
      have V2 := Lib.hid (HV.out.keep hb2)
      have U2 := Lib.hid (HU.out.keep hb2)
      have B2 := Lib.hid (Below.step HB.out HB.out.size hb2)
      have HVL := Lib.hid (show vs.length = k by rw [HV.out.len, HLN.out])
      clear hb2
      go_wp2_with (at_builtin; refine wpList_appG rfl (.tmp 14) (.tmp 16) _ 33 (.slice none 0 0) 24 Try.underlying28 infoL (by omega) rfl rfl w.heap.size w.heap.size _ _ vs _ rfl rfl (V2.out.row.alloc _) (Rg.lit _ _ _ _ B2.out.size) (by simp [Value.oneCell']) (by rw [HVL.out]; simp; omega) (by have := B2.out.size; simp; omega) ?_; intro v3 w3 hr3 hg3 hb3; have N3 := Lib.hid (V2.out.snoc U2.out HAP.out hr3 hg3); have U3 := Lib.hid ((U2.out.alloc (.cells #[.slice a7 (F k).length c7] 33)).grown hg3 (rd_not_row (U2.out.alloc _) (V2.out.alloc (.cells #[.slice a7 (F k).length c7] 33)).row)); have B3 := Lib.hid ((B2.out.alloc B2.out.size _).trans hb3); clear hr3 hg3 hb3)
      rw [show rls F k ++ [F k] = rls F (k + 1) from (rls_succ F k).symm] at N3
      have HUN := Lib.hid N3.out.und
      obtain ⟨a3, c3, rfl⟩ := N3.out.lenY
      refine (gpStep_any _ (F k) b _ U3.out.sl hb2 hb16 (HF8.out k) (HR.out.all k)).mono ?_
      rw [HR.out.len k, ← HR.out.succ k]
      rintro e w4 ⟨u4, rfl, hr4, hb4⟩
      have N4 := Lib.hid (N3.out.keep hb4)
      have AP4 := Lib.hid (LLi.far HUN.out hr4)
      have U4 := Lib.hid (hr4.mono B3.out.size)
      have B4 := Lib.hid (Below.step B3.out B3.out.size hb4)
      have HL1 := Lib.hid (rls_len F (k + 1))
      clear hr4 hb4
      go_wp2
      go_roundw
      case rel => exact ⟨k + 1, _, by omega, N4.out, U4.out, AP4.out, B4.out⟩
      case measure => simp [lenY, rls_len]; omega
    · obtain rfl : k = L := by omega
      obtain ⟨g, rfl⟩ : ∃ g, a6 = some ⟨g, 0, none⟩ := by
        rcases HV.out.row.cases with ⟨he, _⟩ | ⟨g, c, he⟩
        · simp only [Value.slice.injEq] at he; omega
        · simp only [Value.slice.injEq] at he; exact ⟨g, he.1⟩
      have hT0 : (0 : Int) ≤ (T : Int) := Int.natCast_nonneg _
      go_wp2_with fail
      refine (HFD.out T _ HV.out HU.out.sl (Nat.le_of_lt hT) HR.out.nt (fun _ => HR.out.yt)).mono ?_
      rw [if_pos hT]
      rintro e w2 ⟨rfl, hb2⟩
      have V2 := Lib.hid (HV.out.keep hb2)
      have U2 := Lib.hid (HU.out.keep hb2)
      have B2 := Lib.hid (Below.step HB.out HB.out.size hb2)
      clear hb2
      go_wp2_with fail
      refine (HFD.out T _ V2.out U2.out.sl (Nat.le_of_lt hT) HR.out.nt (fun _ => HR.out.yt)).mono ?_
      rw [if_pos hT]
      rintro e w3 ⟨rfl, hb3⟩
      have V3 := Lib.hid (V2.out.keep hb3)
      have B3 := Lib.hid (Below.step B2.out B2.out.size hb3)
      clear hb3
      go_wp2
      go_ret2
      exact ⟨g, c6, vs, rfl, V3.out, B3.out⟩

end Go.Proofs.Ytadjjmlneghklaa
