/-
  Digits of fractions: slices behind the first digits of a row, the program's and the model's digits.
-/
import Derived.Test.Ytgiabadkbfbilab9C
import Derived.Test.YtgiabadkbfbilabPW
namespace Go.Proofs.Ytgiabadkbfbilab
open Go.RowKit
set_option linter.unusedVariables false
set_option linter.unusedSimpArgs false
set_option maxRecDepth 100000

/-- A slice of a row of the call's own from some place on to its end. -/
def Ro (w : World) (B : Nat) (v : Value) (xs : List Int) : Prop := ∃ (g n cap k : Nat) (ys : List Int), v = .slice (some ⟨g, k, none⟩) xs.length (cap - k) ∧ k < n ∧ Rd w B (.slice (some ⟨g, 0, none⟩) n cap) ys ∧ xs = ys.drop k

theorem Ro.of {w : World} {B g n cap k : Nat} {ys : List Int} (h : Rd w B (.slice (some ⟨g, 0, none⟩) n cap) ys) (hk : k < n) : Ro w B (.slice (some ⟨g, k, none⟩) (n - k) (cap - k)) (ys.drop k) := by
  have hn := h.at.1
  exact ⟨g, n, cap, k, ys, by rw [List.length_drop, hn], hk, h, rfl⟩
theorem Ro.mono {w : World} {B C : Nat} {v : Value} {xs : List Int} (h : Ro w B v xs) (hC : C ≤ B) : Ro w C v xs := by
  obtain ⟨g, n, cap, k, ys, h1, h2, h3, h4⟩ := h
  exact ⟨g, n, cap, k, ys, h1, h2, h3.mono hC, h4⟩
theorem Ro.keep {w w' : World} {B : Nat} {v : Value} {xs : List Int} (h : Ro w B v xs) (hb : Below w.heap.size w w') : Ro w' B v xs := by
  obtain ⟨g, n, cap, k, ys, h1, h2, h3, h4⟩ := h
  exact ⟨g, n, cap, k, ys, h1, h2, h3.keep hb, h4⟩
theorem Ro.own {w : World} {B : Nat} {v : Value} {xs : List Int} (h : Ro w B v xs) : ∃ g n cap ys, v.ownBlock = some g ∧ Rd w B (.slice (some ⟨g, 0, none⟩) n cap) ys := by
  obtain ⟨g, n, cap, k, ys, h1, h2, h3, h4⟩ := h
  exact ⟨g, n, cap, ys, by rw [h1]; rfl, h3⟩
theorem Ro.lt {w : World} {B : Nat} {v : Value} {xs : List Int} (h : Ro w B v xs) : ∀ k, v.ownBlock = some k → B ≤ k ∧ k < w.heap.size := by
  obtain ⟨g, n, cap, ys, h1, h3⟩ := h.own
  intro k hk
  rw [h1] at hk
  simp only [Option.some.injEq] at hk
  subst hk
  exact h3.lt g rfl
theorem Ro.grown {w w' : World} {B : Nat} {v : Value} {xs : List Int} {row : Option Nat} (h : Ro w B v xs) (hg : w.grownBy w' row) (hne : v.ownBlock = none ∨ v.ownBlock ≠ row) : Ro w' B v xs := by
  obtain ⟨g, n, cap, k, ys, h1, h2, h3, h4⟩ := h
  rw [h1] at hne
  exact ⟨g, n, cap, k, ys, h1, h2, h3.grown hg hne, h4⟩
theorem Ro.sl {w : World} {B : Nat} {v : Value} {xs : List Int} (h : Ro w B v xs) : Sl w v xs := by
  obtain ⟨g, n, cap, k, ys, h1, h2, h3, h4⟩ := h
  refine ⟨_, _, h1, .inr ⟨g, k, rfl, h3.at.2.2.1, fun j hj => ?_⟩⟩
  subst h4
  have hj' : k + j < ys.length := by rw [List.length_drop] at hj; omega
  rw [h3.at.2.2.2.2.1 (k + j) hj', List.getElem_drop]
theorem Ro.apart {w : World} {B : Nat} {u v : Value} {xs : List Int} (hu : ∀ k, u.ownBlock = some k → k < B) (hv : Ro w B v xs) : u.ownBlock = none ∨ u.ownBlock ≠ v.ownBlock := by
  cases h : u.ownBlock with
  | none => exact .inl rfl
  | some k =>
    right
    intro hc
    have h1 := hu k h
    have h2 := hv.lt k hc.symm
    omega

theorem drop_set' (ys : List Int) (k j : Nat) (q : Int) : (ys.set (k + j) q).drop k = (ys.drop k).set j q := by
  apply List.ext_getElem?
  intro t
  rw [List.getElem?_drop, List.getElem?_set, List.getElem?_set, List.getElem?_drop]
  by_cases h : j = t
  · subst h; rw [if_pos rfl, if_pos rfl, List.length_drop]; by_cases h2 : k + j < ys.length
    · rw [if_pos h2, if_pos (by omega)]
    · rw [if_neg h2, if_neg (by omega)]
  · rw [if_neg h, if_neg (by omega)]

/-- Nothing, or a slice of some row. -/
def Rn (w : World) (B : Nat) (v : Value) (xs : List Int) : Prop := (v = .slice none 0 0 ∧ xs = []) ∨ Ro w B v xs
theorem Rn.nil (w : World) (B : Nat) : Rn w B (.slice none 0 0) [] := .inl ⟨rfl, rfl⟩
theorem Rn.mono {w : World} {B C : Nat} {v : Value} {xs : List Int} (h : Rn w B v xs) (hC : C ≤ B) : Rn w C v xs := h.elim .inl (fun h => .inr (h.mono hC))
theorem Rn.keep {w w' : World} {B : Nat} {v : Value} {xs : List Int} (h : Rn w B v xs) (hb : Below w.heap.size w w') : Rn w' B v xs := h.elim .inl (fun h => .inr (h.keep hb))
theorem Rn.lt {w : World} {B : Nat} {v : Value} {xs : List Int} (h : Rn w B v xs) : ∀ k, v.ownBlock = some k → B ≤ k ∧ k < w.heap.size := by
  rcases h with ⟨rfl, _⟩ | h
  · intro k hk; cases hk
  · exact h.lt
theorem Rn.grown {w w' : World} {B : Nat} {v : Value} {xs : List Int} {row : Option Nat} (h : Rn w B v xs) (hg : w.grownBy w' row) (hne : v.ownBlock = none ∨ v.ownBlock ≠ row) : Rn w' B v xs := h.elim .inl (fun h => .inr (h.grown hg hne))
theorem Rn.sl {w : World} {B : Nat} {v : Value} {xs : List Int} (h : Rn w B v xs) : Sl w v xs := by
  rcases h with ⟨rfl, rfl⟩ | h
  · exact ⟨none, 0, rfl, .inl rfl⟩
  · exact h.sl
theorem Rn.apart {w : World} {B : Nat} {u v : Value} {xs : List Int} (hu : ∀ k, u.ownBlock = some k → k < B) (hv : Rn w B v xs) : u.ownBlock = none ∨ u.ownBlock ≠ v.ownBlock := by
  cases h : u.ownBlock with
  | none => exact .inl rfl
  | some k =>
    right
    intro hc
    have h1 := hu k h
    have h2 := hv.lt k hc.symm
    omega
/-- The first k digits of a / n behind the point. -/
def fdg (a n b k : Nat) : List Int := lst k (fun i => it (mb b n) i a * b / n)
theorem fdg_len (a n b k : Nat) : (fdg a n b k).length = k := lst_len _ _
theorem fdg_succ (a n b k : Nat) : fdg a n b (k + 1) = fdg a n b k ++ [((it (mb b n) k a * b / n : Nat) : Int)] := lst_succ _ _

theorem app_set (xs : List Int) (K j : Nat) (q : Int) (hx : xs.length = j) (hj : j < K) : (xs ++ List.replicate (K - j) (0 : Int)).set j q = (xs ++ [q]) ++ List.replicate (K - (j + 1)) 0 := by
  rw [List.set_append, if_neg (by omega), show K - j = (K - (j + 1)) + 1 by omega, List.replicate_succ, hx, Nat.sub_self, List.append_assoc]
  rfl

theorem mb_quo {b n x : Nat} (hn : 0 < n) : (x : Int) * (b : Int) / (n : Int) = ((x * b / n : Nat) : Int) := by
  rw [show (x : Int) * (b : Int) = ((x * b : Nat) : Int) by push_cast; rfl]; rfl

theorem teDigits_any (a n b K : Nat) (w : World) (hn : 0 < n) (hn2 : n ≤ 2000) (hb : b ≤ 16) (ha : a < n) (hK : K ≤ 4000) :
    Calls Try.prog 130 #[.int .i64 (a : Int), .int .i64 (n : Int), .int .i64 (b : Int), .int .i64 (K : Int)] w fun e w' => ∃ v, e = .returned v ∧ Rd w' w.heap.size v (fdg a n b K) ∧ Below w.heap.size w w' := by
  have HM := Lib.hid (fun x (hx : x < n) => mb_facts hb hn hn2 hx)
  have HI := Lib.hid (fun k => it_lt (mb_into (b := b) hn) k ha)
  have HQ := Lib.hid (fun x => mb_quo (b := b) (x := x) hn)
  have HS := Lib.hid (fun k => fdg_succ a n b k)
  have HLen := Lib.hid (fun k => fdg_len a n b k)
  have HN0 := Lib.hid (show it (mb b n) 0 a = a from rfl)
  have HNs := Lib.hid (fun k => show it (mb b n) (k + 1) a = mb b n (it (mb b n) k a) from rfl)
  have hz := beq_no (show (n : Int) ≠ 0 by omega)
  have hz2 : ¬ (n : Int) = 0 := by omega
  go_enter Try.func130, Try.ntmps130
  go_wp2
  go_loopw [0, 3, 9] (fun x k o wr => ∃ j : Nat, j ≤ K ∧ x = .int .i64 ((it (mb b n) j a : Nat) : Int) ∧ k = .int .i64 ((K : Int) - (j : Int)) ∧ Rd wr w.heap.size o (fdg a n b j) ∧ Below w.heap.size w wr) (fun _ k _ _ => (intOf k).toNat)
  case atStart => exact ⟨0, Nat.zero_le _, rfl, by simp, Rd.nil _ _, Below.refl _ _⟩
  case round =>
    obtain ⟨j, hj, rfl, rfl, hr, hbl⟩ := hrel
    have HR := Lib.hid hr
    have HB := Lib.hid hbl
    clear hr hbl
    have HX := Lib.hid (HI.out j)
    have HN := Lib.hid (HNs.out j)
    have HSj := Lib.hid (HS.out j)
    have HL := Lib.hid (HLen.out j)
    obtain ⟨x, hx⟩ : ∃ x, x = it (mb b n) j a := ⟨_, rfl⟩
    rw [← hx] at HX HN HSj ⊢
    clear hx
    obtain ⟨m0, m1, m2, m3, m4⟩ := HM.out x HX.out
    have HM2 := Lib.hid m2
    have HQx := Lib.hid (HQ.out x)
    clear m2
    by_cases hlt : j < K
    · have hk : (0 : Int) < (K : Int) - (j : Int) := by omega
      obtain ⟨q, hq⟩ : ∃ q, q = (x : Int) * (b : Int) / (n : Int) := ⟨_, rfl⟩
      have HQ2 := Lib.hid hq
      rw [← HQx.out, ← hq] at HSj
      rw [← hq] at HQx
      clear HQx
      go_wp2_with (at_builtin; refine wpList_appR rfl _ _ rfl w.heap.size w.heap.size _ _ (fdg a n b j) [q] rfl rfl (HR.out.alloc _) (by rw [HQ2.out]; exact Rd.litB _ _ _ HB.out.size) (by simp; have := HL.out; omega) (by have := HB.out.size; simp; omega) ?_; intro v1 w1 hr1 hg1 hb1; rw [← HSj.out] at hr1; have HR1 := Lib.hid hr1; have HB1 := Lib.hid (((HB.out.alloc HB.out.size _).trans hb1)); clear hr1 hg1 hb1)
      go_roundw
      case rel => exact ⟨j + 1, by omega, by rw [HM2.out, HN.out], by go_num, HR1.out, HB1.out⟩
      case measure => simp [intOf]; omega
    · obtain rfl : j = K := by omega
      have hk : ¬ (0 : Int) < (j : Int) - (j : Int) := by omega
      go_wp2
      go_ret
      exact ⟨_, rfl, HR.out, HB.out⟩

theorem digits_anyF (a n b K : Nat) (w : World) (hn : 0 < n) (hn2 : n ≤ 2000) (hb : b ≤ 16) (ha : a < n) (hK : K ≤ 4000) :
    Calls Try.prog 71 #[frcV (a : Int) (n : Int) (b : Int), .int .i64 (K : Int)] w fun e w' => ∃ v, e = .returned v ∧ Rd w' w.heap.size v (fdg a n b K) ∧ Below w.heap.size w w' := by
  have HB0 := Lib.hid (alloc_below9 w (.cells #[.int .i64 (a : Int), .int .i64 (n : Int), .int .i64 (b : Int)] 65))
  have c0 : (w.alloc (.cells #[.int .i64 (a : Int), .int .i64 (n : Int), .int .i64 (b : Int)] 65)).cell? ⟨w.heap.size, 0, none⟩ = some (.int .i64 (a : Int)) := by simp [go_sem]
  have c1 : (w.alloc (.cells #[.int .i64 (a : Int), .int .i64 (n : Int), .int .i64 (b : Int)] 65)).cell? ⟨w.heap.size, 1, none⟩ = some (.int .i64 (n : Int)) := by simp [go_sem]
  have c2 : (w.alloc (.cells #[.int .i64 (a : Int), .int .i64 (n : Int), .int .i64 (b : Int)] 65)).cell? ⟨w.heap.size, 2, none⟩ = some (.int .i64 (b : Int)) := by simp [go_sem]
  have HM := Lib.hid (fun x (hx : x < n) => mb_facts hb hn hn2 hx)
  have HI := Lib.hid (fun k => it_lt (mb_into (b := b) hn) k ha)
  have HQ := Lib.hid (fun x => mb_quo (b := b) (x := x) hn)
  have HS := Lib.hid (fun k => fdg_succ a n b k)
  have HLen := Lib.hid (fun k => fdg_len a n b k)
  have HN0 := Lib.hid (show it (mb b n) 0 a = a from rfl)
  have HNs := Lib.hid (fun k => show it (mb b n) (k + 1) a = mb b n (it (mb b n) k a) from rfl)
  have hz := beq_no (show (n : Int) ≠ 0 by omega)
  have hz2 : ¬ (n : Int) = 0 := by omega
  go_enter Try.func71, Try.ntmps71
  go_wp2_with (at_make; refine wpList_mkR rfl _ _ rfl .i64 .i64 _ _ K rfl rfl rfl rfl (by omega) ?_; intro w1 hr1 hg1 hb1; rw [World.size_alloc] at hr1; have HR1 := Lib.hid hr1; have HB1 := Lib.hid (Below.step HB0.out HB0.out.size hb1); have d0 := Below.keeps_cell hb1 c0; have d1 := Below.keeps_cell hb1 c1; have d2 := Below.keeps_cell hb1 c2; clear hr1 hg1 hb1 c0 c1 c2)
  go_loopw [6, 13] (fun x i wr => ∃ j : Nat, j ≤ K ∧ i = .int .i64 (j : Int) ∧ x = .int .i64 ((it (mb b n) j a : Nat) : Int) ∧ Rd wr (w.heap.size + 1) (.slice (some ⟨w.heap.size + 1, 0, none⟩) K K) (fdg a n b j ++ List.replicate (K - j) 0) ∧ Hid (wr.cell? ⟨w.heap.size, 1, none⟩ = some (.int .i64 (n : Int)) ∧ wr.cell? ⟨w.heap.size, 2, none⟩ = some (.int .i64 (b : Int))) ∧ Below w.heap.size w wr) (fun _ i _ => K - (intOf i).toNat)
  case atStart => exact ⟨0, Nat.zero_le _, rfl, rfl, by have := HR1.out; simpa [fdg, lst] using this, Lib.hid ⟨d1, d2⟩, HB1.out⟩
  case round =>
    obtain ⟨j, hj, rfl, rfl, hr, HC, hbl⟩ := hrel
    have HR := Lib.hid hr
    have HB := Lib.hid hbl
    clear hr hbl d0 d1 d2
    have HX := Lib.hid (HI.out j)
    have HN := Lib.hid (HNs.out j)
    have HSj := Lib.hid (HS.out j)
    have HL := Lib.hid (HLen.out j)
    obtain ⟨x, hx⟩ : ∃ x, x = it (mb b n) j a := ⟨_, rfl⟩
    rw [← hx] at HX HN HSj ⊢
    clear hx
    obtain ⟨m0, m1, m2, m3, m4⟩ := HM.out x HX.out
    have HM2 := Lib.hid m2
    have HQx := Lib.hid (HQ.out x)
    clear m2
    obtain ⟨c1, c2⟩ := HC.out
    by_cases hlt : j < K
    · obtain ⟨q, hq⟩ : ∃ q, q = (x : Int) * (b : Int) / (n : Int) := ⟨_, rfl⟩
      have HQ2 := Lib.hid hq
      rw [← HQx.out, ← hq] at HSj
      have HSet := Lib.hid (app_set (fdg a n b j) K j q HL.out hlt)
      rw [← HSj.out] at HSet
      clear HQx hq
      obtain ⟨q0, hd⟩ : ∃ q, wr.cell? ⟨w.heap.size + 1, j, none⟩ = some (.int .i64 q) := ⟨_, HR.out.at.2.2.2.2.1 j (by have := HL.out; simp; omega)⟩
      have hf := HR.out.at.2.2.2.2.2 j
      have HS2 := Lib.hid (HR.out.set j q)
      have HBs := Lib.hid (HB.out.setCell (p := ⟨w.heap.size + 1, j, none⟩) (by simp) (.int .i64 q))
      have hqq := HQ2.out.symm
      go_wp2
      go_roundw
      case rel =>
        have n1 : (⟨w.heap.size + 1, j, none⟩ : Addr) ≠ ⟨w.heap.size, 1, none⟩ := fun e => by simp at e
        have n2 : (⟨w.heap.size + 1, j, none⟩ : Addr) ≠ ⟨w.heap.size, 2, none⟩ := fun e => by simp at e
        exact ⟨j + 1, by omega, by go_num, by rw [HM2.out, HN.out], by rw [← HSet.out]; exact HS2.out.1, Lib.hid ⟨by first | (rw [World.cell?_setCell_other _ _ _ _ n1]; exact c1) | (rw [World.cell?_setCell_other _ _ _ _ (Ne.symm n1)]; exact c1), by first | (rw [World.cell?_setCell_other _ _ _ _ n2]; exact c2) | (rw [World.cell?_setCell_other _ _ _ _ (Ne.symm n2)]; exact c2)⟩, HBs.out⟩
      case measure => simp [intOf]; omega
    · obtain rfl : j = K := by omega
      go_wp2
      go_ret
      exact ⟨_, rfl, by have h := HR.out; rw [Nat.sub_self, List.replicate_zero, List.append_nil] at h; exact h.mono (by omega), HB.out⟩


/-- The digits that come again and again. -/
def rpt (a n b : Nat) : List Int := (fdg a n b (pB a n b + pA a n b)).drop (pB a n b)
theorem rpt_len (a n b : Nat) : (rpt a n b).length = pA a n b := by unfold rpt; rw [List.length_drop, fdg_len]; omega

def OK_FractionDigits (a n b k : Int) : Bool := decide (Frc a n b ∧ 0 ≤ k ∧ k ≤ 200)
def LF_FractionDigits (a n b k : Int) : List Int := if Frc a n b ∧ 0 ≤ k ∧ k ≤ 200 then fdg a.toNat n.toNat b.toNat k.toNat else []
theorem LF_FractionDigits_len (a n b k : Int) : (LF_FractionDigits a n b k).length ≤ 2000000 := by
  unfold LF_FractionDigits
  split
  · rw [fdg_len]; omega
  · simp

end Go.Proofs.Ytgiabadkbfbilab
