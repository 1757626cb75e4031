/-
  The model's run of a word.
-/
import Derived.Test.YtadjjmlneghklaaJU
import Derived.Test.YtadjjmlneghklaaJR
import Derived.Test.YtadjjmlneghklaaE2
namespace Go.Proofs.Ytadjjmlneghklaa
open Go.RowKit
set_option linter.unusedVariables false
set_option linter.unusedSimpArgs false
set_option maxRecDepth 100000

theorem gpFind_any (v u : Value) (vs : List Value) (ls : List (List Int)) (x : List Int) (t B : Nat) (w : World) (h : LLi w B v vs ls) (hu : Sl w u x) (hx : x.length ≤ 8) (hl8 : ∀ l ∈ ls, l.length ≤ 8) (ht : t ≤ ls.length) (hno : ∀ j, j < t → ls[j]? ≠ some x) (hyes : t < ls.length → ls[t]? = some x) (hn : ls.length ≤ 100000) :
    Calls Try.prog 39 #[v, u] w fun e w' => e = .returned (.int .i64 (if t < ls.length then (t : Int) else -1)) ∧ Below w.heap.size w w' := by
  have H := Lib.hid h
  have HU := Lib.hid hu
  have HL8 := Lib.hid hl8
  have HNO := Lib.hid hno
  have HYES := Lib.hid hyes
  have HLN := Lib.hid h.len
  obtain ⟨n, hnn⟩ : ∃ n, n = ls.length := ⟨_, rfl⟩
  have HN := Lib.hid hnn
  rw [← hnn] at hn ht HYES
  rw [← hnn]
  obtain ⟨a, cap, rfl⟩ : ∃ a cap, v = .slice a n cap := by
    rcases h.row.cases with ⟨rfl, h0⟩ | ⟨g, c, rfl⟩
    · have := h.len; rw [h0, ← hnn] at this; simp at this; subst this; exact ⟨_, _, rfl⟩
    · rw [h.len, ← hnn]; exact ⟨_, _, rfl⟩
  obtain ⟨au, cu, rfl⟩ := hu.len
  obtain ⟨r, hr⟩ : ∃ r : Int, r = (if t < n then (t : Int) else -1) := ⟨_, rfl⟩
  have HR := Lib.hid hr
  rw [← hr]
  clear h hu hl8 hno hyes hr hnn
  go_enter Try.func39, Try.ntmps39
  go_wp2
  go_loopw [9] (fun i wr => ∃ k : Nat, k ≤ t ∧ i = .int .i64 (k : Int) ∧ Below w.heap.size w wr) (fun i _ => n - (intOf i).toNat)
  case atStart => exact ⟨0, Nat.zero_le _, rfl, Below.refl _ _⟩
  case round =>
    obtain ⟨k, hk, rfl, hb⟩ := hrel
    have HB := Lib.hid hb
    have HK := Lib.hid (H.out.keep hb)
    have HUK := Lib.hid (HU.out.keep hb)
    clear hb
    by_cases hlt : k < n
    · obtain ⟨z, hz⟩ : ∃ z, vs[k]? = some z := ⟨vs[k]'(by rw [HLN.out, ← HN.out]; exact hlt), by simp⟩
      obtain ⟨l, hl, hrz⟩ := HK.out.rd hz
      have HLL := Lib.hid (HL8.out l (List.mem_of_getElem? hl))
      have hrow := HK.out.row
      rcases hrow.cases with ⟨_, h0⟩ | ⟨ga, ca, hv⟩
      · rw [h0] at hz; simp at hz
      simp only [Value.slice.injEq] at hv
      obtain ⟨rfl, hz0, rfl⟩ := hv
      clear hz0
      have hcell : wr.cell? ⟨ga, k, none⟩ = some z := by
        obtain ⟨i1, i2⟩ := List.getElem?_eq_some_iff.1 hz
        rw [hrow.at.2.2.2.2.2.1 k i1, i2]
      have HRZ := Lib.hid hrz.sl
      obtain ⟨az, cz, rfl⟩ := hrz.sl.len
      have HSM := Lib.hid (fun (w' : World) (h : Sl w' (.slice az l.length cz) l) (h2 : Sl w' (.slice au x.length cu) x) => l1Same_any _ _ l x w' h h2 (by have := HLL.out; omega) (by omega))
      by_cases hkt : k < t
      · have HQ := Lib.hid (show decide (l = x) = false from decide_eq_false (fun e => HNO.out k hkt (by rw [hl, e])))
        rw [HQ.out] at HSM
        clear hz hl hrz hrow
        go_wp2_with (go_at_call 34; refine (HSM.out _ HRZ.out HUK.out).mono ?_; rintro e w1 ⟨rfl, hb1⟩; have B1 := Lib.hid (Below.step HB.out HB.out.size hb1); clear hb1)
        go_roundw
        case rel => exact ⟨k + 1, by omega, by go_num, B1.out⟩
        case measure => simp [intOf]; omega
      · obtain rfl : k = t := by omega
        have HQ := Lib.hid (show decide (l = x) = true from decide_eq_true (by have := HYES.out hlt; rw [hl] at this; simpa using this))
        have HRE := Lib.hid (show r = (k : Int) by rw [HR.out, if_pos hlt])
        rw [HQ.out] at HSM
        clear hz hl hrz hrow
        go_wp2_with (go_at_call 34; refine (HSM.out _ HRZ.out HUK.out).mono ?_; rintro e w1 ⟨rfl, hb1⟩; have B1 := Lib.hid (Below.step HB.out HB.out.size hb1); clear hb1)
        go_ret
        exact ⟨ret_int HRE.out.symm, B1.out⟩
    · obtain rfl : k = n := by omega
      have HRE := Lib.hid (show r = -1 by rw [HR.out, if_neg (by omega)])
      go_wp2
      go_ret
      exact ⟨ret_int HRE.out.symm, HB.out⟩

end Go.Proofs.Ytadjjmlneghklaa
