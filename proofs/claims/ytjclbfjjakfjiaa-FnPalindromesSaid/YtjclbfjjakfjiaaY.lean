/-
  The next palindrome: comparing, raising, mirroring.
-/
import Derived.Test.YtjclbfjjakfjiaaZ
import Derived.Test.YtjclbfjjakfjiaaI
namespace Go.Proofs.Ytjclbfjjakfjiaa
open Go.RowKit
set_option linter.unusedVariables false
set_option linter.unusedSimpArgs false

def cmpI (x y : Int) : Int := if x < y then -1 else if y < x then 1 else 0

theorem isNaN_any (x : Int) (w : World) : Calls Try.prog 53 #[.int .i64 x] w fun e w' => e = .returned (.bool false) ∧ w = w' := by
  go_enter Try.func53, Try.ntmps53
  go_wp2
  go_ret
  exact ⟨by simp, rfl⟩

theorem cmp_any (x y : Int) (w : World) : Calls Try.prog 50 #[.int .i64 x, .int .i64 y] w fun e w' => e = .returned (.int .i64 (cmpI x y)) ∧ w = w' := by
  have hnan := fun (x : Int) (w : World) => isNaN_any x w
  by_cases h1 : x < y
  · have hc := Lib.hid (show cmpI x y = -1 from if_pos h1)
    go_enter Try.func50, Try.ntmps50
    go_wp2_with (go_at_call 53; refine (isNaN_any _ _).mono ?_; rintro e w1 ⟨rfl, rfl⟩)
    go_ret
    exact ⟨ret_int hc.out.symm, rfl⟩
  · by_cases h2 : y < x
    · have hc := Lib.hid (show cmpI x y = 1 by unfold cmpI; rw [if_neg h1, if_pos h2])
      go_enter Try.func50, Try.ntmps50
      go_wp2_with (go_at_call 53; refine (isNaN_any _ _).mono ?_; rintro e w1 ⟨rfl, rfl⟩)
      go_ret
      exact ⟨ret_int hc.out.symm, rfl⟩
    · have hc := Lib.hid (show cmpI x y = 0 by unfold cmpI; rw [if_neg h1, if_neg h2])
      go_enter Try.func50, Try.ntmps50
      go_wp2_with (go_at_call 53; refine (isNaN_any _ _).mono ?_; rintro e w1 ⟨rfl, rfl⟩)
      go_ret
      exact ⟨ret_int hc.out.symm, rfl⟩

/-- How two lists compare, as long as each other. -/
def cmpL : List Int → List Int → Int
  | x :: xs, y :: ys => if cmpI x y = 0 then cmpL xs ys else cmpI x y
  | _, _ => 0

theorem cmpL_step (xs ys : List Int) (k : Nat) (hx : k < xs.length) (hy : k < ys.length) : cmpL (xs.drop k) (ys.drop k) = if cmpI xs[k] ys[k] = 0 then cmpL (xs.drop (k + 1)) (ys.drop (k + 1)) else cmpI xs[k] ys[k] := by
  rw [List.drop_eq_getElem_cons hx, List.drop_eq_getElem_cons hy, cmpL]

theorem compare_any (v u : Value) (xs ys : List Int) (w : World) (hv : Sl w v xs) (hu : Sl w u ys) (hl : xs.length ≤ 2000000) (hle : xs.length = ys.length) :
    Calls Try.prog 36 #[v, u] w fun e w' => e = .returned (.int .i64 (cmpL xs ys)) ∧ Below w.heap.size w w' := by
  obtain ⟨a, cap, rfl, hx⟩ := hv
  obtain ⟨c, cap2, rfl, hy⟩ := hu
  have HX := Lib.hid hx
  have HY := Lib.hid hy
  have HL := Lib.hid hle
  have hn1 : xs.length ≤ ys.length := by omega
  have hn2 : ys.length ≤ xs.length := by omega
  clear hx hy hle
  go_enter Try.func36, Try.ntmps36
  go_wp2
  go_loopw [11] (fun i wr => ∃ k : Nat, k ≤ xs.length ∧ i = .int .i64 k ∧ cmpL (xs.drop k) (ys.drop k) = cmpL xs ys ∧ Below w.heap.size w wr) (fun i _ => xs.length - (intOf i).toNat)
  case atStart => exact ⟨0, Nat.zero_le _, rfl, rfl, Below.refl _ _⟩
  case round =>
    obtain ⟨k, hk, rfl, ht, hb⟩ := hrel
    have HT := Lib.hid ht
    have HB := Lib.hid hb
    clear ht hb
    by_cases hlt : k < xs.length
    · rcases HX.out with hx | ⟨b, off, rfl, hbl, hc⟩
      · rw [hx] at hlt; simp at hlt
      rcases HY.out with hy | ⟨b2, off2, rfl, hbl2, hc2⟩
      · have hy0 := congrArg List.length hy
        rw [List.length_nil] at hy0
        omega
      have hlt2 : k < ys.length := by omega
      have hcell : wr.cell? ⟨b, off + k, none⟩ = some (.int .i64 xs[k]) := (HB.out.cell (p := ⟨b, off + k, none⟩) hbl).trans (hc k hlt)
      have hcell2 : wr.cell? ⟨b2, off2 + k, none⟩ = some (.int .i64 ys[k]) := (HB.out.cell (p := ⟨b2, off2 + k, none⟩) hbl2).trans (hc2 k hlt2)
      clear hc hc2
      have HS := Lib.hid (cmpL_step xs ys k hlt hlt2)
      by_cases he : cmpI xs[k] ys[k] = 0
      · have HE := Lib.hid he
        have hbn : (cmpI xs[k] ys[k] != 0) = false := bne_no he
        clear he
        go_wp2_with (go_at_call 50; refine (cmp_any _ _ _).mono ?_; rintro e w1 ⟨rfl, rfl⟩)
        go_roundw
        case rel => exact ⟨k + 1, by omega, by go_num, by rw [← HT.out, HS.out, if_pos HE.out], HB.out⟩
        case measure => simp [intOf]; omega
      · have HE := Lib.hid he
        have hbn : (cmpI xs[k] ys[k] != 0) = true := bne_yes he
        clear he
        go_wp2_with (go_at_call 50; refine (cmp_any _ _ _).mono ?_; rintro e w1 ⟨rfl, rfl⟩)
        go_ret
        exact ⟨ret_int (by rw [← HT.out, HS.out, if_neg HE.out]), HB.out⟩
    · obtain rfl : k = xs.length := by omega
      have hz := Lib.hid (show cmpL xs ys = 0 by rw [← HT.out, List.drop_eq_nil_of_le (Nat.le_refl _)]; rfl)
      go_wp2
      go_ret
      exact ⟨ret_int hz.out.symm, HB.out⟩

/-- One more in the places 0..i. -/
def raiseAt (b : Int) : Nat → List Int → List Int
  | 0, xs => xs.set 0 (xs.getD 0 0 + 1)
  | i + 1, xs => if xs.getD (i + 1) 0 = b - 1 then raiseAt b i (xs.set (i + 1) 0) else xs.set (i + 1) (xs.getD (i + 1) 0 + 1)

theorem getD_at (xs : List Int) (k : Nat) (h : k < xs.length) : xs.getD k 0 = xs[k] := by simp [List.getD, h]

theorem raiseAt_stop (b : Int) (k : Nat) (ys : List Int) (h : k < ys.length) (he : ys[k] ≠ b - 1) : raiseAt b k ys = ys.set k (ys[k] + 1) := by
  rw [← getD_at ys k h] at he ⊢
  cases k with
  | zero => rw [raiseAt]
  | succ k => rw [raiseAt, if_neg he]

theorem raiseAt_on (b : Int) (k : Nat) (ys : List Int) (h : k + 1 < ys.length) (he : ys[k + 1] = b - 1) : raiseAt b (k + 1) ys = raiseAt b k (ys.set (k + 1) 0) := by
  rw [← getD_at ys (k + 1) h] at he
  rw [raiseAt, if_pos he]

theorem raiseAt_eq (b : Int) : ∀ (i : Nat) (xs : List Int), i < xs.length → (∃ j, j ≤ i ∧ xs.getD j 0 ≠ b - 1) → raiseAt b i xs = (incR b (xs.take (i + 1)).reverse).reverse ++ xs.drop (i + 1) := by
  intro i
  induction i with
  | zero =>
    intro xs h hj
    obtain ⟨j, hj, hn⟩ := hj
    obtain rfl : j = 0 := by omega
    cases xs with
    | nil => simp at h
    | cons x xs =>
      simp at hn
      simp [raiseAt, incR, hn]
  | succ i ih =>
    intro xs h hj
    have h2 := take_snoc xs (i + 1) h
    rw [h2, List.reverse_append, List.reverse_singleton, List.singleton_append, incR, raiseAt]
    by_cases he : xs.getD (i + 1) 0 = b - 1
    · rw [if_pos he, if_pos he, ih _ (by simp; omega)]
      · have e1 : (xs.set (i + 1) 0).take (i + 1) = xs.take (i + 1) := by
          apply List.ext_getElem?
          intro t
          rw [List.getElem?_take, List.getElem?_take]
          split
          · rw [List.getElem?_set_ne (by omega)]
          · rfl
        have e2 : (xs.set (i + 1) 0).drop (i + 1) = 0 :: xs.drop (i + 2) := by
          rw [List.drop_eq_getElem_cons (by simpa using h), List.getElem_set_self, List.drop_set_of_lt (by omega)]
        rw [e1, e2]
        simp
      · obtain ⟨j, hj, hn⟩ := hj
        have : j ≠ i + 1 := by rintro rfl; exact hn he
        refine ⟨j, by omega, ?_⟩
        rw [List.getD, List.getElem?_set_ne (by omega)]
        exact hn
    · rw [if_neg he, if_neg he, List.reverse_cons, List.reverse_reverse, List.set_eq_take_append_cons_drop, if_pos h]
      simp

theorem raiseFront_any (g n cap : Nat) (b : Int) (xs : List Int) (B : Nat) (w : World) (h : Rd w B (.slice (some ⟨g, 0, none⟩) n cap) xs) (h1 : 1 ≤ xs.length) (hl : xs.length ≤ 2000000) (hb : 2 ≤ b) (hb' : b ≤ 16)
    (hall : ∀ x ∈ xs, 0 ≤ x ∧ x ≤ b - 1) (hj : ∃ j, j ≤ (xs.length - 1) / 2 ∧ xs.getD j 0 ≠ b - 1) :
    Calls Try.prog 37 #[.int .i64 b, .slice (some ⟨g, 0, none⟩) n cap] w fun e w' => e = .returned (.tuple #[]) ∧ Rd w' B (.slice (some ⟨g, 0, none⟩) n cap) (raiseAt b ((xs.length - 1) / 2) xs) ∧ w.grownBy w' (some g) := by
  obtain ⟨rfl, hBg, hgw, _⟩ := h.at
  have H := Lib.hid h
  have HA := Lib.hid hall
  have HJ := Lib.hid hj
  clear h hall hj
  go_enter Try.func37, Try.ntmps37
  go_wp2
  go_loopw [4] (fun i wr => ∃ (k : Nat) (ys : List Int), k < xs.length ∧ i = .int .i64 k ∧ ys.length = xs.length ∧ (∀ y ∈ ys, 0 ≤ y ∧ y ≤ b - 1) ∧ (∃ j, j ≤ k ∧ ys.getD j 0 ≠ b - 1) ∧ raiseAt b k ys = raiseAt b ((xs.length - 1) / 2) xs ∧ Rd wr B (.slice (some ⟨g, 0, none⟩) xs.length cap) ys ∧ w.grownBy wr (some g)) (fun i _ => (intOf i).toNat)
  case atStart => exact ⟨(xs.length - 1) / 2, xs, by omega, by rw [show (((xs.length - 1) / 2 : Nat) : Int) = ((xs.length : Int) - 1) / 2 by omega], rfl, HA.out, HJ.out, rfl, H.out, World.grownBy.refl _ _⟩
  case round =>
    obtain ⟨k, ys, hk, rfl, hyl, hya, hj, hra, hr, hg⟩ := hrel
    have HL := Lib.hid hyl
    have HY := Lib.hid hya
    have HJ2 := Lib.hid hj
    have HRA := Lib.hid hra
    have HR := Lib.hid hr
    have HG := Lib.hid hg
    have hky : k < ys.length := by omega
    clear hya hj hra hr hg hyl
    have hck : wr.cell? ⟨g, k, none⟩ = some (.int .i64 ys[k]) := HR.out.at.2.2.2.2.1 k hky
    have hf : wr.frozen? ⟨g, k, none⟩ = false := HR.out.at.2.2.2.2.2 k
    obtain ⟨q0, q1⟩ := HY.out _ (List.getElem_mem hky)
    by_cases he : ys[k] = b - 1
    · have HE := Lib.hid he
      have hbq : (ys[k] == b - 1) = true := beq_yes he
      have hk1 : 1 ≤ k := by
        obtain ⟨j, j1, j2⟩ := HJ2.out
        by_cases h0 : j = k
        · subst h0
          rw [getD_at ys j hky] at j2
          exact absurd he j2
        · omega
      clear he
      obtain ⟨m, rfl⟩ : ∃ m, k = m + 1 := ⟨k - 1, by omega⟩
      go_wp2
      go_roundw
      case rel =>
        have h2 := HR.out.set (m + 1) 0
        have e := raiseAt_on b m ys hky HE.out
        refine ⟨m, ys.set (m + 1) 0, by omega, by go_num, by simp [HL.out], ?_, ?_, by rw [← e]; exact HRA.out, h2.1, grown_trans HG.out h2.2⟩
        · intro y hy
          rcases List.mem_or_eq_of_mem_set hy with hy | rfl
          · exact HY.out y hy
          · omega
        · obtain ⟨j, j1, j2⟩ := HJ2.out
          have hjm : j ≠ m + 1 := by
            rintro rfl
            rw [getD_at ys _ hky] at j2
            exact j2 HE.out
          refine ⟨j, by omega, ?_⟩
          rw [List.getD, List.getElem?_set_ne (by omega)]
          exact j2
      case measure => simp [intOf]
    · have HE := Lib.hid he
      have hbq : (ys[k] == b - 1) = false := beq_no he
      clear he
      go_wp2
      go_end0
      have h2 := HR.out.set k (ys[k] + 1)
      have e := raiseAt_stop b k ys hky HE.out
      refine ⟨rfl, ?_, grown_trans HG.out h2.2⟩
      rw [← HRA.out, e]
      exact h2.1

theorem dgMirrored_any (v : Value) (xs : List Int) (w : World) (B : Nat) (h : Rd w B v xs) (h1 : 1 ≤ xs.length) (hl : xs.length ≤ 2000000) :
    Calls Try.prog 20 #[v] w fun e w' => ∃ g' cap', e = .returned (.slice (some ⟨g', 0, none⟩) xs.length cap') ∧ Rd w' w.heap.size (.slice (some ⟨g', 0, none⟩) xs.length cap') (mir xs) ∧ Below w.heap.size w w' := by
  have H := Lib.hid h
  clear h
  go_enter Try.func20, Try.ntmps20
  go_wp2_with fail
  refine (l1Own_any _ _ _ _ H.out hl).mono ?_
  rintro e w1 ⟨u, rfl, hr, hb⟩
  rcases hr.cases with ⟨_, hx⟩ | ⟨g', cap', rfl, hg', _⟩
  · exact absurd (congrArg List.length hx) (by rw [List.length_nil]; omega)
  have R1 := Lib.hid hr
  have B1 := Lib.hid hb
  clear hr hb
  go_wp2
  go_loopw [10] (fun i wr => ∃ (k : Nat) (ys : List Int), k ≤ xs.length ∧ i = .int .i64 k ∧ MirP xs ys (fun t => t < k ∧ xs.length < 2 * t + 1) ∧ Rd wr w.heap.size (.slice (some ⟨g', 0, none⟩) xs.length cap') ys ∧ Below w.heap.size w wr) (fun i _ => xs.length - (intOf i).toNat)
  case atStart => exact ⟨0, xs, by omega, rfl, MirP.zero xs _ (fun t ht => by omega), R1.out, B1.out⟩
  case round =>
    obtain ⟨k, ys, hk, rfl, hm, hr, hb⟩ := hrel
    have HM := Lib.hid hm
    have HR := Lib.hid hr
    have HB := Lib.hid hb
    clear hm hr hb
    by_cases hlt : k < xs.length
    · by_cases hup : xs.length < 2 * k + 1
      · have hyl : k < ys.length := by have := HM.out.1; omega
        have hyj : xs.length - 1 - k < ys.length := by have := HM.out.1; omega
        obtain ⟨v, hv⟩ : ∃ v, v = ys[xs.length - 1 - k]'hyj := ⟨_, rfl⟩
        have hcj : wr.cell? ⟨g', xs.length - 1 - k, none⟩ = some (.int .i64 v) := by rw [hv]; exact HR.out.at.2.2.2.2.1 _ hyj
        obtain ⟨q, hck⟩ : ∃ q, wr.cell? ⟨g', k, none⟩ = some (.int .i64 q) := ⟨_, HR.out.at.2.2.2.2.1 k hyl⟩
        have hf := HR.out.at.2.2.2.2.2 k
        have HV := Lib.hid hv
        clear hv
        go_wp2
        go_roundw
        case rel =>
          have h2 := HR.out.set k v
          have hst : MirP xs (ys.set k v) (fun t => t < k + 1 ∧ xs.length < 2 * t + 1) := HM.out.step k v hlt (by rw [HV.out]; simp) (by omega) (by omega) (fun t ht ht2 => by omega)
          exact ⟨k + 1, _, by omega, by go_num, hst, h2.1, HB.out.trans (grown_below h2.2 HB.out.size hg')⟩
        case measure => simp [intOf]; omega
      · go_wp2
        go_roundw
        case rel =>
          have hst : MirP xs ys (fun t => t < k + 1 ∧ xs.length < 2 * t + 1) := HM.out.skip (fun t ht => by omega)
          exact ⟨k + 1, _, by omega, by go_num, hst, HR.out, HB.out⟩
        case measure => simp [intOf]; omega
    · obtain rfl : k = xs.length := by omega
      go_wp2
      go_ret
      have hd := HM.out.done (fun t ht => by omega)
      exact ⟨g', cap', rfl, by rw [← hd]; exact HR.out, HB.out⟩

end Go.Proofs.Ytjclbfjjakfjiaa
