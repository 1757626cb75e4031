/-
  Maps: what leads to a number; joined maps; powers.
-/
import Derived.Test.YticagncemlnafaaPT
namespace Go.Proofs.Yticagncemlnafaa
open Go.RowKit
set_option linter.unusedVariables false
set_option linter.unusedSimpArgs false

/-- Natural numbers as Go's integers. -/
def nts (l : List Nat) : List Int := l.map fun (x : Nat) => (x : Int)
theorem nts_len (l : List Nat) : (nts l).length = l.length := by simp [nts]
theorem nts_snoc (l : List Nat) (x : Nat) : nts (l ++ [x]) = nts l ++ [(x : Int)] := by simp [nts]

def befL (f : Nat → Nat) (x k : Nat) : List Nat := (List.range k).filter fun y => f y == x
theorem befL_yes {f : Nat → Nat} {x k : Nat} (h : f k = x) : befL f x (k + 1) = befL f x k ++ [k] := by
  unfold befL; rw [List.range_succ, List.filter_append]; simp [h]
theorem befL_no {f : Nat → Nat} {x k : Nat} (h : f k ≠ x) : befL f x (k + 1) = befL f x k := by
  unfold befL; rw [List.range_succ, List.filter_append]; simp [h]
theorem befL_len (f : Nat → Nat) (x k : Nat) : (befL f x k).length ≤ k := by
  have := List.length_filter_le (fun y => f y == x) (List.range k)
  rw [List.length_range] at this; exact this

theorem before_any (g n cap : Nat) (f : Nat → Nat) (x : Nat) (w : World) (h : Mp w g n f) :
    Calls Try.prog 77 #[.slice (some ⟨g, 0, none⟩) n cap, .int .i64 (x : Int)] w fun e w' => ∃ u, e = .returned u ∧ Rd w' w.heap.size u (nts (befL f x n)) ∧ Below w.heap.size w w' := by
  have H := Lib.hid h
  have h0 := h.n0
  have h1 := h.n1
  clear h
  go_enter Try.func77, Try.ntmps77
  go_wp2
  go_loopw [5, 10] (fun u i wr => ∃ k : Nat, k ≤ n ∧ i = .int .i64 k ∧ Rd wr w.heap.size u (nts (befL f x k)) ∧ Below w.heap.size w wr) (fun _ i _ => n - (intOf i).toNat)
  case atStart => exact ⟨0, Nat.zero_le _, rfl, Rd.nil _ _, Below.refl _ _⟩
  case round =>
    obtain ⟨k, hk, rfl, hr, hb⟩ := hrel
    have HR := Lib.hid hr
    have HB := Lib.hid hb
    clear hr hb
    by_cases hlt : k < n
    · have hcell := (H.out.keep HB.out).cell k hlt
      have hl := Lib.hid (befL_len f x k)
      by_cases he : f k = x
      · have HE := Lib.hid (befL_yes he)
        have hbq : (((f k : Nat) : Int) == (x : Int)) = true := beq_yes (by omega)
        clear he
        go_wp2_with (at_builtin; refine wpList_appR rfl _ _ rfl w.heap.size w.heap.size _ _ (nts (befL f x k)) [(k : Int)] rfl rfl (HR.out.alloc _) (Rd.litB _ _ _ HB.out.size) (by rw [nts_len]; have := hl.out; simp; omega) (by have := HB.out.size; simp; omega) ?_; intro v1 w1 hr1 hg1 hb1)
        have HR1 := Lib.hid hr1
        have HB1 := Lib.hid ((HB.out.alloc HB.out.size _).trans hb1)
        clear hr1 hg1 hb1
        go_wp2
        go_roundw
        case rel => exact ⟨k + 1, by omega, by go_num, by rw [HE.out, nts_snoc]; exact HR1.out, HB1.out⟩
        case measure => simp [intOf]; omega
      · have HE := Lib.hid (befL_no he)
        have hbq : (((f k : Nat) : Int) == (x : Int)) = false := beq_no (by omega)
        clear he
        go_wp2
        go_roundw
        case rel => exact ⟨k + 1, by omega, by go_num, by rw [HE.out]; exact HR.out, HB.out⟩
        case measure => simp [intOf]; omega
    · obtain rfl : k = n := by omega
      go_wp2
      go_ret
      exact ⟨_, rfl, HR.out, HB.out⟩

theorem mpBefore_any (g n cap : Nat) (f : Nat → Nat) (x : Nat) (w : World) (h : Mp w g n f) :
    Calls Try.prog 76 #[.slice (some ⟨g, 0, none⟩) n cap, .int .i64 (x : Int)] w fun e w' => ∃ u, e = .returned u ∧ Rd w' w.heap.size u (nts (befL f x n)) ∧ Below w.heap.size w w' := by
  have H := Lib.hid h
  have h0 := h.n0
  have h1 := h.n1
  clear h
  go_enter Try.func76, Try.ntmps76
  go_wp2
  go_loopw [5, 10] (fun u i wr => ∃ k : Nat, k ≤ n ∧ i = .int .i64 k ∧ Rd wr w.heap.size u (nts (befL f x k)) ∧ Below w.heap.size w wr) (fun _ i _ => n - (intOf i).toNat)
  case atStart => exact ⟨0, Nat.zero_le _, rfl, Rd.nil _ _, Below.refl _ _⟩
  case round =>
    obtain ⟨k, hk, rfl, hr, hb⟩ := hrel
    have HR := Lib.hid hr
    have HB := Lib.hid hb
    clear hr hb
    by_cases hlt : k < n
    · have hcell := (H.out.keep HB.out).cell k hlt
      have hl := Lib.hid (befL_len f x k)
      by_cases he : f k = x
      · have HE := Lib.hid (befL_yes he)
        have hbq : (((f k : Nat) : Int) == (x : Int)) = true := beq_yes (by omega)
        clear he
        go_wp2_with (at_builtin; refine wpList_appR rfl _ _ rfl w.heap.size w.heap.size _ _ (nts (befL f x k)) [(k : Int)] rfl rfl (HR.out.alloc _) (Rd.litB _ _ _ HB.out.size) (by rw [nts_len]; have := hl.out; simp; omega) (by have := HB.out.size; simp; omega) ?_; intro v1 w1 hr1 hg1 hb1)
        have HR1 := Lib.hid hr1
        have HB1 := Lib.hid ((HB.out.alloc HB.out.size _).trans hb1)
        clear hr1 hg1 hb1
        go_wp2
        go_roundw
        case rel => exact ⟨k + 1, by omega, by go_num, by rw [HE.out, nts_snoc]; exact HR1.out, HB1.out⟩
        case measure => simp [intOf]; omega
      · have HE := Lib.hid (befL_no he)
        have hbq : (((f k : Nat) : Int) == (x : Int)) = false := beq_no (by omega)
        clear he
        go_wp2
        go_roundw
        case rel => exact ⟨k + 1, by omega, by go_num, by rw [HE.out]; exact HR.out, HB.out⟩
        case measure => simp [intOf]; omega
    · obtain rfl : k = n := by omega
      go_wp2
      go_ret
      exact ⟨_, rfl, HR.out, HB.out⟩

theorem rg_rd {w : World} {B : Nat} {v : Value} {xs : List Int} (h : Rg 3 w B v (xs.map (Value.int .i64))) : Rd w B v xs := by
  unfold Rg at h
  rw [List.length_map] at h
  exact h

theorem lst_zero (n : Nat) : List.replicate n (Value.int .i64 0) = (lst n (fun _ => 0)).map (Value.int .i64) := by
  apply List.ext_getElem
  · simp [lst]
  · intro j h1 h2
    simp [lst]

/-- 'make(mapping, n)'. -/
theorem wpList_mkM {w : World} {ops : Array Oper} {rest : List Oper} {o : Oper} {a : Act} {Q : Exit → Act → World → Prop} (hgd : o.guard = none) (l c : Operand) (t : TypeId) (ht : Try.prog.underlying t = some (.slice 3)) (ho : o.op = Op.makeSlice t l c)
    (kl kc : IntKind) (L C : Int) (n : Nat) (hl : a.eval l = .int kl L) (hc : a.eval c = .int kc C) (hL : L = (n : Int)) (hC : C = (n : Int)) (hn : n ≤ 60)
    (h : ∀ w', Rd w' w.heap.size (.slice (some ⟨w.heap.size, 0, none⟩) n n) (lst n (fun _ => 0)) → w.grownBy w' none → Below w.heap.size w w' → wpList Try.prog ops Q rest (a.put o.dst (.slice (some ⟨w.heap.size, 0, none⟩) n n)) w') :
    wpList Try.prog ops Q (o :: rest) a w := by
  refine wpList_mkG hgd l c t 3 (.int .i64 0) 8 ht info3 (by omega) rfl ho kl kc L C n hl hc hL hC (by omega) ?_
  intro w' h1 h2 h3
  rw [lst_zero] at h1
  exact h w' (rg_rd h1) h2 h3

theorem lst_set (n : Nat) (F : Nat → Nat) (k q : Nat) : (lst n F).set k (q : Int) = lst n (fun x => if x = k then q else F x) := by
  apply List.ext_getElem?
  intro j
  by_cases hj : j < n
  · by_cases e : k = j
    · subst e; simp [lst, List.getElem?_set, hj]
    · have e' : ¬ j = k := fun h => e h.symm
      simp [lst, List.getElem?_set, hj, e, e']
  · rw [List.getElem?_eq_none (by simp [lst]; omega), List.getElem?_eq_none (by simp [lst]; omega)]

theorem Rd.setL {w : World} {B g n cap : Nat} {F : Nat → Nat} (h : Rd w B (.slice (some ⟨g, 0, none⟩) n cap) (lst n F)) (j q : Nat) :
    Rd (w.setCell ⟨g, j, none⟩ (.int .i64 (q : Int))) B (.slice (some ⟨g, 0, none⟩) n cap) (lst n (fun x => if x = j then q else F x)) ∧ w.grownBy (w.setCell ⟨g, j, none⟩ (.int .i64 (q : Int))) (some g) := by
  have := h.set j (q : Int)
  rw [lst_set] at this
  exact this

theorem lst_fill {n : Nat} {F G : Nat → Nat} (k : Nat) (hG : G k = F k) : lst n (fun x => if x = k then G k else if x < k then F x else 0) = lst n (fun x => if x < k + 1 then F x else 0) := by
  apply lst_congr
  intro x _
  by_cases e : x = k
  · subst e; rw [if_pos rfl, if_pos (by omega), hG]
  · rw [if_neg e]
    by_cases h : x < k
    · rw [if_pos h, if_pos (by omega)]
    · rw [if_neg h, if_neg (by omega)]

theorem lst_full (n : Nat) (F : Nat → Nat) : lst n (fun x => if x < n then F x else 0) = lst n F := lst_congr fun x hx => if_pos hx
theorem lst_none (n : Nat) (F : Nat → Nat) : lst n (fun _ => 0) = lst n (fun x => if x < 0 then F x else 0) := lst_congr fun x _ => by simp

theorem then_any (g n cap g2 cap2 : Nat) (f f2 : Nat → Nat) (w : World) (h : Mp w g n f) (h2 : Mp w g2 n f2) :
    Calls Try.prog 79 #[.slice (some ⟨g, 0, none⟩) n cap, .slice (some ⟨g2, 0, none⟩) n cap2] w fun e w' => ∃ g3 cap3, e = .returned (.slice (some ⟨g3, 0, none⟩) n cap3) ∧ Rd w' w.heap.size (.slice (some ⟨g3, 0, none⟩) n cap3) (lst n (fun x => f2 (f x))) ∧ Below w.heap.size w w' := by
  have H := Lib.hid h
  have H2 := Lib.hid h2
  have h0 := h.n0
  have h1 := h.n1
  clear h h2
  go_enter Try.func79, Try.ntmps79
  go_wp2_with (at_make; refine wpList_mkM rfl _ _ _ Try.underlying51 rfl .i64 .i64 _ _ n rfl rfl rfl rfl (by omega) ?_; intro w1 hr1 hg1 hb1)
  have HR1 := Lib.hid hr1
  have HB1 := Lib.hid hb1
  clear hr1 hg1 hb1
  go_loopw [13] (fun i wr => ∃ k : Nat, k ≤ n ∧ i = .int .i64 k ∧ Rd wr w.heap.size (.slice (some ⟨w.heap.size, 0, none⟩) n n) (lst n (fun x => if x < k then f2 (f x) else 0)) ∧ Below w.heap.size w wr) (fun i _ => n - (intOf i).toNat)
  case atStart => exact ⟨0, Nat.zero_le _, rfl, by rw [← lst_none]; exact HR1.out, HB1.out⟩
  case round =>
    obtain ⟨k, hk, rfl, hr, hb⟩ := hrel
    have HR := Lib.hid hr
    have HB := Lib.hid hb
    clear hr hb
    by_cases hlt : k < n
    · have hcell := (H.out.keep HB.out).cell k hlt
      have hfk := H.out.into k hlt
      have hcell2 := (H2.out.keep HB.out).cell (f k) hfk
      obtain ⟨hcs, hfs⟩ := HR.out.at.2.2.2.2
      obtain ⟨q, hd⟩ : ∃ q, wr.cell? ⟨w.heap.size, k, none⟩ = some (.int .i64 q) := ⟨_, hcs k (by rw [lst_len]; omega)⟩
      have hf := hfs k
      have HS := Lib.hid (HR.out.setL k (f2 (f k)))
      have HBs := Lib.hid (HB.out.setCell (p := ⟨w.heap.size, k, none⟩) (Nat.le_refl _) (.int .i64 ((f2 (f k) : Nat) : Int)))
      have HF := Lib.hid (lst_fill (n := n) (F := fun x => f2 (f x)) (G := fun x => f2 (f x)) k rfl)
      clear hcs hfs
      go_wp2
      go_roundw
      case rel => exact ⟨k + 1, by omega, by go_num, by rw [← HF.out]; exact HS.out.1, HBs.out⟩
      case measure => simp [intOf]; omega
    · obtain rfl : k = n := by omega
      go_wp2
      go_ret
      exact ⟨_, _, rfl, by rw [← lst_full k (fun x => f2 (f x))]; exact HR.out, HB.out⟩

theorem it_sq (f : Nat → Nat) (j y : Nat) : it (fun x => f (f x)) j y = it f (2 * j) y := by
  induction j with
  | zero => rfl
  | succ j ih => rw [show 2 * (j + 1) = (2 * j + 1) + 1 from by omega]; simp only [it, ih]

theorem power_any (g n cap : Nat) (f : Nat → Nat) (K : Nat) (w : World) (h : Mp w g n f) (hK : K ≤ 1000000) :
    Calls Try.prog 64 #[.slice (some ⟨g, 0, none⟩) n cap, .int .i64 (K : Int)] w fun e w' => ∃ g3 cap3, e = .returned (.slice (some ⟨g3, 0, none⟩) n cap3) ∧ Rd w' w.heap.size (.slice (some ⟨g3, 0, none⟩) n cap3) (lst n (it f K)) ∧ Below w.heap.size w w' := by
  have H := Lib.hid h
  have h0 := h.n0
  have h1 := h.n1
  clear h
  go_enter Try.func64, Try.ntmps64
  go_wp2_with (at_make; refine wpList_mkM rfl _ _ _ Try.underlying51 rfl .i64 .i64 _ _ n rfl rfl rfl rfl (by omega) ?_; intro w1 hr1 hg1 hb1)
  have HR1 := Lib.hid hr1
  have HB1 := Lib.hid hb1
  clear hr1 hg1 hb1
  go_loopw [12] (fun i wr => ∃ k : Nat, k ≤ n ∧ i = .int .i64 k ∧ Rd wr w.heap.size (.slice (some ⟨w.heap.size, 0, none⟩) n n) (lst n (fun x => if x < k then id x else 0)) ∧ Below w.heap.size w wr) (fun i _ => n - (intOf i).toNat)
  case atStart => exact ⟨0, Nat.zero_le _, rfl, by rw [← lst_none]; exact HR1.out, HB1.out⟩
  case round =>
    obtain ⟨k, hk, rfl, hr, hb⟩ := hrel
    have HR := Lib.hid hr
    have HB := Lib.hid hb
    clear hr hb
    by_cases hlt : k < n
    · obtain ⟨hcs, hfs⟩ := HR.out.at.2.2.2.2
      obtain ⟨q, hd⟩ : ∃ q, wr.cell? ⟨w.heap.size, k, none⟩ = some (.int .i64 q) := ⟨_, hcs k (by rw [lst_len]; omega)⟩
      have hf := hfs k
      have HS := Lib.hid (HR.out.setL k k)
      have HBs := Lib.hid (HB.out.setCell (p := ⟨w.heap.size, k, none⟩) (Nat.le_refl _) (.int .i64 (k : Int)))
      have HF := Lib.hid (lst_fill (n := n) (F := id) (G := id) k rfl)
      clear hcs hfs
      go_wp2
      go_roundw
      case rel => exact ⟨k + 1, by omega, by go_num, by rw [← HF.out]; exact HS.out.1, HBs.out⟩
      case measure => simp [intOf]; omega
    · obtain rfl : k = n := by omega
      rw [lst_full] at HR
      go_wp2
      go_loopw [0, 1, 5] (fun m i p wr => ∃ (gm gp cm cp j : Nat) (fm fp : Nat → Nat), m = .slice (some ⟨gm, 0, none⟩) k cm ∧ i = .int .i64 (j : Int) ∧ p = .slice (some ⟨gp, 0, none⟩) k cp ∧ j ≤ K ∧ Mp wr gm k fm ∧ Rd wr w.heap.size (.slice (some ⟨gp, 0, none⟩) k cp) (lst k fp) ∧ Into fp k ∧ (∀ x, x < k → it fm j (fp x) = it f K x) ∧ Below w.heap.size w wr) (fun _ i _ _ => (intOf i).toNat)
      case atStart => exact ⟨g, w.heap.size, cap, k, K, f, id, rfl, rfl, rfl, Nat.le_refl _, H.out.keep HB.out, HR.out, fun x hx => hx, fun x hx => rfl, HB.out⟩
      case round =>
        obtain ⟨gm, gp, cm, cp, j, fm, fp, rfl, rfl, rfl, hj, hm, hp, hi, he, hb⟩ := hrel
        have HM := Lib.hid hm
        have HP := Lib.hid hp
        have HI := Lib.hid hi
        have HE := Lib.hid he
        have HB2 := Lib.hid hb
        clear hm hp hi he hb
        by_cases hpos : 0 < j
        · have hpos' : 0 < (j : Int) := by omega
          by_cases hodd : j % 2 = 1
          · have ho : ((j : Int) % 2 == 1) = true := beq_yes (by omega)
            have HO := Lib.hid hodd
            clear hodd
            go_wp2_with fail
            refine (then_any gp k cp gm cm fp fm _ (HP.out.mp HI.out (by omega) (by omega)) HM.out).mono ?_
            rintro e w2 ⟨g3, c3, rfl, hr, hb⟩
            have HP2 := Lib.hid hr
            have HM2 := Lib.hid (HM.out.keep hb)
            have HB3 := Lib.hid (Below.step HB2.out HB2.out.size hb)
            clear hr hb
            go_wp2_with fail
            refine (then_any gm k cm gm cm fm fm _ HM2.out HM2.out).mono ?_
            rintro e w3 ⟨g4, c4, rfl, hr, hb⟩
            have HM3 := Lib.hid (hr.mp (fun x hx => HM.out.into _ (HM.out.into _ hx)) (by omega) (by omega))
            have HP3 := Lib.hid (HP2.out.keep hb)
            have HB4 := Lib.hid (Below.step HB3.out HB3.out.size hb)
            have hsz := HB2.out.size
            clear hr hb
            go_wp2
            go_roundw
            case rel => exact ⟨g4, g3, c4, c3, j / 2, _, _, rfl, by go_num, rfl, by omega, HM3.out, HP3.out.mono hsz, fun x hx => HM.out.into _ (HI.out x hx), fun x hx => by rw [it_sq, ← HE.out x hx, ← it_in]; congr 1; have := HO.out; omega, HB4.out⟩
            case measure => simp [intOf]; omega
          · have ho : ((j : Int) % 2 == 1) = false := beq_no (by omega)
            have HO := Lib.hid hodd
            clear hodd
            go_wp2_with fail
            refine (then_any gm k cm gm cm fm fm _ HM.out HM.out).mono ?_
            rintro e w3 ⟨g4, c4, rfl, hr, hb⟩
            have HM3 := Lib.hid (hr.mp (fun x hx => HM.out.into _ (HM.out.into _ hx)) (by omega) (by omega))
            have HP3 := Lib.hid (HP.out.keep hb)
            have HB4 := Lib.hid (Below.step HB2.out HB2.out.size hb)
            clear hr hb
            go_wp2
            go_roundw
            case rel => exact ⟨g4, gp, c4, cp, j / 2, _, _, rfl, by go_num, rfl, by omega, HM3.out, HP3.out, HI.out, fun x hx => by rw [it_sq, ← HE.out x hx]; congr 1; have := HO.out; omega, HB4.out⟩
            case measure => simp [intOf]; omega
        · have hpos' : ¬ 0 < (j : Int) := by omega
          obtain rfl : j = 0 := by omega
          have HL := Lib.hid (lst_congr (n := k) (F := fp) (G := it f K) (fun x hx => HE.out x hx))
          go_wp2
          go_ret
          exact ⟨_, _, rfl, by rw [← HL.out]; exact HP.out, HB2.out⟩

end Go.Proofs.Yticagncemlnafaa
