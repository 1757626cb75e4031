/-
  Answers of BasinsOf.
-/
import Derived.Test.YticagncemlnafaaQB
namespace Go.Proofs.Yticagncemlnafaa
open Go.RowKit
set_option linter.unusedVariables false
set_option linter.unusedSimpArgs false
set_option maxRecDepth 100000

theorem l1Has_any (v : Value) (xs : List Int) (x : Int) (B : Nat) (w : World) (h : Rd w B v xs) (hl : xs.length ≤ 2000000) :
    Calls Try.prog 73 #[v, .int .i64 x] w fun e w' => e = .returned (.bool (decide (x ∈ xs))) ∧ w = w' := by
  rcases h.cases with ⟨rfl, rfl⟩ | ⟨g, cap, rfl, _, _, _, _, hc, _⟩
  · go_enter Try.func73, Try.ntmps73
    go_wp2
    refine wp_loop_rounds 1 ?_
    rw [rounds_succ]
    go_wp2
    go_ret
    exact ⟨rfl, rfl⟩
  · have hc' := Lib.hid hc
    clear hc h
    go_enter Try.func73, Try.ntmps73
    go_wp2
    go_loop [9] (fun i => ∃ k : Nat, k ≤ xs.length ∧ i = .int .i64 k ∧ x ∉ xs.take k) (fun i => xs.length - (intOf i).toNat)
    case atStart => exact ⟨0, Nat.zero_le _, rfl, by simp⟩
    case round =>
      obtain ⟨k, hk, rfl, hp⟩ := hrel
      have hp' := Lib.hid hp
      clear hp
      by_cases hlt : k < xs.length
      · have hcell := hc'.out k hlt
        by_cases he : xs[k] = x
        · have hbq : (xs[k] == x) = true := beq_yes he
          have HD := Lib.hid (show decide (x ∈ xs) = true from decide_eq_true (he ▸ List.getElem_mem hlt))
          clear he
          go_wp2
          go_ret
          exact ⟨ret_bool HD.out.symm, rfl⟩
        · have hbq : (xs[k] == x) = false := beq_no he
          have HN := Lib.hid (show x ∉ xs.take (k + 1) by rw [take_snoc' xs k hlt, List.mem_append, List.mem_singleton]; exact fun h => h.elim hp'.out (fun e => he e.symm))
          clear he
          go_wp2
          go_round
          case rel => exact ⟨k + 1, by omega, by go_num, HN.out⟩
          case measure => simp [intOf]; omega
      · obtain rfl : k = xs.length := by omega
        go_wp2
        go_ret
        exact ⟨ret_bool (by have := hp'.out; rw [List.take_of_length_le (Nat.le_refl _)] at this; exact (decide_eq_false this).symm), rfl⟩

theorem mem_nts {l : List Nat} {y : Nat} : ((y : Nat) : Int) ∈ nts l ↔ y ∈ l := by
  unfold nts
  rw [List.mem_map]
  constructor
  · rintro ⟨z, hz, he⟩
    obtain rfl : z = y := by omega
    exact hz
  · intro h; exact ⟨y, h, rfl⟩

def basL (f : Nat → Nat) (n : Nat) : List Int := lst n (basF f n)
theorem basL_len (f : Nat → Nat) (n : Nat) (hf : Into f n) (h0 : 1 ≤ n) (h1 : n ≤ 60) : (basL f n).length ≤ 2000000 := by unfold basL; rw [lst_len]; omega
theorem basins_u (g n cap : Nat) (f : Nat → Nat) (w : World) (h : Mp w g n f) :
    Calls Try.prog 69 #[.slice (some ⟨g, 0, none⟩) n cap] w fun e w' => ∃ u, e = .returned u ∧ Rd w' w.heap.size u (basL f n) ∧ Below w.heap.size w w' :=
  (basins_any g n cap f w h).mono fun _ _ ⟨_, _, h1, h2, h3⟩ => ⟨_, h1, h2, h3⟩

def OK_BasinsOf (xs : List Int) : Bool := goodM xs
def LF_BasinsOf (xs : List Int) : List Int := if goodM xs = true then basL (fnO xs) xs.length else []
theorem LF_BasinsOf_len (xs : List Int) (h : xs.length ≤ 1048576) : (LF_BasinsOf xs).length ≤ 2000000 := by
  unfold LF_BasinsOf
  split
  · rename_i hq
    obtain ⟨hc, h1, h2, h3⟩ := good_can hq
    have := basL_len (fnO xs) xs.length h3 h1 h2
    omega
  · simp

theorem ask_basins (v : Value) (xs : List Int) (B : Nat) (w : World) (h : Rd w B v xs) (hl : xs.length ≤ 1048576) :
    Calls Try.prog 74 #[v, .func (Fn.func 69) #[] #[]] w fun e w' => ∃ u, e = .returned (.tuple #[u, .bool (OK_BasinsOf xs)]) ∧ Rd w' w.heap.size u (LF_BasinsOf xs) ∧ Below w.heap.size w w' := by
  have H := Lib.hid h
  by_cases hq : goodM xs = true
  · obtain ⟨g, n, cap, f, rfl, hm, hn, hf, hxs, _⟩ := h.good hq
    have HM := Lib.hid hm
    have n0 := hm.n0
    have n1 := hm.n1
    have HN := Lib.hid hn
    have HO := Lib.hid (show OK_BasinsOf xs = true from hq)
    have HL := Lib.hid (show LF_BasinsOf xs = basL f n by unfold LF_BasinsOf; rw [if_pos hq, ← hf, ← hn])
    clear h hm hn hf hxs hl
    go_enter Try.func74, Try.ntmps74
    go_wp2_with (first | (go_at_call 21; refine (IsMap_any _ xs _ _ H.out (by have := HN.out; omega)).mono ?_; rintro e w1 ⟨rfl, rfl⟩) | (go_at_call 69; refine (basins_u g n cap f _ HM.out).mono ?_; rintro e w1 ⟨u, rfl, hr, hb⟩; have HR := Lib.hid hr; have HB := Lib.hid hb; clear hr hb))
    go_ret2
    exact ⟨_, by rw [HO.out]; rfl, by rw [HL.out]; exact HR.out, HB.out⟩
  · have hq' : goodM xs = false := by simpa using hq
    have HO := Lib.hid (show OK_BasinsOf xs = false from hq')
    have HL := Lib.hid (show LF_BasinsOf xs = [] by unfold LF_BasinsOf; rw [hq']; rfl)
    clear h hq
    go_enter Try.func74, Try.ntmps74
    go_wp2_with (go_at_call 21; refine (IsMap_any _ xs _ _ H.out (by omega)).mono ?_; rintro e w1 ⟨rfl, rfl⟩)
    go_ret2
    exact ⟨_, by rw [HO.out]; rfl, by rw [HL.out]; exact Rd.nil _ _, Below.refl _ _⟩

theorem impl_BasinsOf (v : Value) (xs : List Int) (B : Nat) (w : World) (h : Rd w B v xs) (hl : xs.length ≤ 1048576) :
    Calls Try.prog 34 #[v] w fun e w' => ∃ u, e = .returned (.tuple #[u, .bool (OK_BasinsOf xs)]) ∧ Rd w' w.heap.size u (LF_BasinsOf xs) ∧ Below w.heap.size w w' := by
  have H := Lib.hid h
  clear h
  go_enter Try.func34, Try.ntmps34
  go_wp2_with (go_at_call 74; refine (ask_basins _ xs _ _ H.out hl).mono ?_; rintro e w1 ⟨u, rfl, hr, hb⟩; have HR := Lib.hid hr; have HB := Lib.hid hb; clear hr hb)
  go_ret2
  exact ⟨_, rfl, HR.out, HB.out⟩

theorem spec_BasinsOf (v : Value) (xs : List Int) (B : Nat) (w : World) (h : Rd w B v xs) (hl : xs.length ≤ 1048576) :
    Calls Try.prog 33 #[v] w fun e w' => ∃ u, e = .returned (.tuple #[u, .bool (OK_BasinsOf xs)]) ∧ Rd w' w.heap.size u (LF_BasinsOf xs) ∧ Below w.heap.size w w' := by
  have H := Lib.hid h
  by_cases hq : goodM xs = true
  · obtain ⟨g, n, cap, f, rfl, hm, hn, hf, hxs, _⟩ := h.good hq
    have HM := Lib.hid hm
    have n0 := hm.n0
    have n1 := hm.n1
    have HN := Lib.hid hn
    have HO := Lib.hid (show OK_BasinsOf xs = true from hq)
    have HL := Lib.hid (show LF_BasinsOf xs = basL f n by unfold LF_BasinsOf; rw [if_pos hq, ← hf, ← hn])
    clear h hm hn hf hxs hl
    go_enter Try.func33, Try.ntmps33
    go_wp2_with fail
    refine (mpGood_any _ xs _ _ H.out (by have := HN.out; omega)).mono ?_
    rw [hq]
    rintro e w1 ⟨rfl, rfl⟩
    go_wp2_with fail
    refine (mpCycles_any g n cap f _ HM.out).mono ?_
    rintro e w1 ⟨v, vs, rfl, hv, hb⟩
    obtain ⟨gv, cv, rfl⟩ := hv.outer (cycs_ne HM.out.into n0)
    have HV := Lib.hid hv
    have HB1 := Lib.hid hb
    clear hv hb
    go_wp2
    go_loopw [5, 16] (fun u i wr => ∃ k : Nat, k ≤ n ∧ i = .int .i64 k ∧ Rd wr w1.heap.size u (lst k (basF f n)) ∧ Below w1.heap.size w1 wr) (fun _ i _ => n - (intOf i).toNat)
    case atStart => exact ⟨0, Nat.zero_le _, rfl, Rd.nil _ _, Below.refl _ _⟩
    case round =>
      rename World => wa
      obtain ⟨k, hk, rfl, hr, hb⟩ := hrel
      have HR := Lib.hid hr
      have HB := Lib.hid hb
      have HBw := Lib.hid (Below.step HB1.out HB1.out.size hb)
      have HVk := Lib.hid (HV.out.keep hb)
      clear hr hb
      by_cases hlt : k < n
      · obtain ⟨y, hy⟩ : ∃ y, y = it f n k := ⟨_, rfl⟩
        have HY := Lib.hid hy
        have hcy : cyc f n y = true := by rw [hy]; exact cyc_at hlt
        have HI := Lib.hid (idx_spec HM.out.into hcy)
        obtain ⟨d, hd⟩ : ∃ d, d = idx f n y := ⟨_, rfl⟩
        have HD := Lib.hid hd
        have hdn : d < n := by obtain ⟨l, _, _, h3⟩ := HI.out; rw [← hd] at h3; exact h3
        have HN := Lib.hid (show ∀ (j : Nat) (l : List Nat), j < d → (cycs f n)[j]? = some l → y ∉ l from fun j l hj hl hyl => by have := idx_eq HM.out.into hl hyl; omega)
        clear hy hcy hd
        go_wp2_with (go_at_call 62; refine (mpAt_any g n cap f k n _ (HM.out.keep HBw.out) hlt (by omega)).mono ?_; rw [← HY.out]; rintro e w2 ⟨rfl, rfl⟩)
        go_loopw [8] (fun i wr => ∃ j : Nat, j ≤ d ∧ i = .int .i64 (j : Int) ∧ wa = wr) (fun i _ => d - (intOf i).toNat)
        case atStart => exact ⟨0, Nat.zero_le _, rfl, rfl⟩
        case round =>
          obtain ⟨j, hj, rfl, hw⟩ := hrel
          subst hw
          obtain ⟨l, hl, hyl, _⟩ := HI.out
          rw [← HD.out] at hl
          have hdl := (List.getElem?_eq_some_iff.1 hl).1
          obtain ⟨m, hm⟩ : ∃ m, (cycs f n)[j]? = some m := ⟨(cycs f n)[j]'(by omega), by simp⟩
          obtain ⟨x, _, hmx, hlead, _⟩ := cycs_get hm
          have hlen : 1 ≤ m.length ∧ m.length ≤ n := by
            rw [hmx, rnd_len]
            obtain ⟨p1, p2, _⟩ := per_spec HM.out.into ((lead_iff HM.out.into).1 hlead).1
            exact ⟨p1, p2⟩
          obtain ⟨gu, cu, hvj, hru⟩ := HVk.out.shape hm (fun e => by rw [e] at hlen; simp at hlen)
          have hcell : wa.cell? ⟨gv, j, none⟩ = some (.slice (some ⟨gu, 0, none⟩) m.length cu) := by
            obtain ⟨i1, i2⟩ := List.getElem?_eq_some_iff.1 hvj
            obtain ⟨_, _, _, _, _, hc, _⟩ := HVk.out.row.at
            rw [hc j i1, i2]
          have HRU := Lib.hid hru
          have HML := Lib.hid (show (nts m).length ≤ 2000000 by rw [nts_len]; omega)
          have hjc : j < (cycs f n).length := by omega
          by_cases hjd : j < d
          · have HQ := Lib.hid (show decide (((y : Nat) : Int) ∈ nts m) = false from decide_eq_false (fun hc => HN.out j m hjd hm (mem_nts.1 hc)))
            clear hl hyl hm hmx hlead hlen hvj hru
            go_wp2_with (go_at_call 73; refine (l1Has_any _ _ _ _ _ HRU.out HML.out).mono ?_; rw [HQ.out]; rintro e w2 ⟨rfl, rfl⟩)
            go_roundw
            case rel => exact ⟨j + 1, by omega, by go_num, by first | trivial | rfl⟩
            case measure => simp [intOf]; omega
          · obtain rfl : j = d := by omega
            have HQ := Lib.hid (show decide (((y : Nat) : Int) ∈ nts m) = true from decide_eq_true (mem_nts.2 (by rw [hm] at hl; simp only [Option.some.injEq] at hl; rw [hl]; exact hyl)))
            have HL2 := Lib.hid (lst_len k (basF f n))
            have HLS := Lib.hid (show lst (k + 1) (basF f n) = lst k (basF f n) ++ [(j : Int)] by rw [lst_succ]; unfold basF; rw [← HY.out, ← HD.out])
            clear hl hyl hm hmx hlead hlen hvj hru
            go_wp2_with (first | (go_at_call 73; refine (l1Has_any _ _ _ _ _ HRU.out HML.out).mono ?_; rw [HQ.out]; rintro e w2 ⟨rfl, rfl⟩) | (at_builtin; refine wpList_appR rfl _ _ rfl w1.heap.size w1.heap.size _ _ (lst k (basF f n)) [(j : Int)] rfl rfl (HR.out.alloc _) (Rd.litB _ _ _ HB.out.size) (by rw [HL2.out]; simp; omega) (by have := HB.out.size; simp; omega) ?_; intro v1 w3 hr1 hg1 hb1))
            have HR3 := Lib.hid hr1
            have HB3 := Lib.hid ((HB.out.alloc HB.out.size _).trans hb1)
            clear hr1 hg1 hb1
            go_wp2
            go_roundw
            case rel => exact ⟨k + 1, by omega, by go_num, by rw [HLS.out]; exact HR3.out, HB3.out⟩
            case measure => simp [intOf]; omega
      · obtain rfl : k = n := by omega
        go_wp2
        go_ret2
        exact ⟨_, by rw [HO.out]; rfl, by rw [HL.out]; exact HR.out.mono HB1.out.size, HBw.out⟩
  · have hq' : goodM xs = false := by simpa using hq
    have HO := Lib.hid (show OK_BasinsOf xs = false from hq')
    have HL := Lib.hid (show LF_BasinsOf xs = [] by unfold LF_BasinsOf; rw [hq']; rfl)
    clear h hq
    go_enter Try.func33, Try.ntmps33
    go_wp2_with (go_at_call 58; refine (mpGood_any _ xs _ _ H.out (by omega)).mono ?_; rintro e w1 ⟨rfl, rfl⟩)
    go_ret2
    exact ⟨_, by rw [HO.out]; rfl, by rw [HL.out]; exact Rd.nil _ _, Below.refl _ _⟩

end Go.Proofs.Yticagncemlnafaa
