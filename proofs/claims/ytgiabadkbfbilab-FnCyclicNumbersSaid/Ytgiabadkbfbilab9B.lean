/-
  Orders of bases: leaves, the program's and the model's loops, their answers.
-/
import Derived.Test.Ytgiabadkbfbilab9A
import Derived.Test.YtgiabadkbfbilabT
import Derived.Test.YtgiabadkbfbilabK
namespace Go.Proofs.Ytgiabadkbfbilab
open Go.RowKit
set_option linter.unusedVariables false
set_option linter.unusedSimpArgs false

theorem mb_facts {b n x : Nat} (hb : b ≤ 16) (hn : 0 < n) (hn2 : n ≤ 2000) (hx : x < n) :
    0 ≤ (x : Int) * (b : Int) ∧ (x : Int) * (b : Int) ≤ 32000 ∧ (x : Int) * (b : Int) % (n : Int) = ((mb b n x : Nat) : Int) ∧ mb b n x < n ∧ ((n : Int) == 0) = false := by
  have h1 : x * b ≤ 2000 * 16 := Nat.mul_le_mul (by omega) hb
  have e : (x : Int) * (b : Int) = ((x * b : Nat) : Int) := by push_cast; rfl
  refine ⟨by omega, by omega, ?_, Nat.mod_lt _ hn, beq_no (by omega)⟩
  rw [e]; rfl

theorem one_mod {n : Nat} (hn : 0 < n) : (1 : Int) % (n : Int) = ((1 % n : Nat) : Int) := rfl

/-- A number that may divide. -/
def Den (n : Int) : Prop := 1 ≤ n ∧ n ≤ 2000
instance (n : Int) : Decidable (Den n) := by unfold Den; infer_instance
theorem isDenominator_any (n : Int) (w : World) : Calls Try.prog 80 #[.int .i64 n] w fun e w' => e = .returned (.bool (decide (Den n))) ∧ w = w' := by
  by_cases h : 1 ≤ n
  · by_cases h2 : n ≤ 2000
    · have hd := Lib.hid (show decide (Den n) = true from decide_eq_true (p := Den n) ⟨h, h2⟩)
      go_enter Try.func80, Try.ntmps80
      go_wp2
      go_ret
      exact ⟨ret_bool (by rw [hd.out]; try simp [h2]), rfl⟩
    · have hd := Lib.hid (show decide (Den n) = false from decide_eq_false (p := Den n) (fun hc => by have h3 := hc.1; have h4 := hc.2; omega))
      go_enter Try.func80, Try.ntmps80
      go_wp2
      go_ret
      exact ⟨ret_bool (by rw [hd.out]; try simp [h2]), rfl⟩
  · have hd := Lib.hid (show decide (Den n) = false from decide_eq_false (p := Den n) (fun hc => by have h3 := hc.1; have h4 := hc.2; omega))
    go_enter Try.func80, Try.ntmps80
    go_wp2
    go_ret
    exact ⟨ret_bool (by rw [hd.out]; try simp [h]), rfl⟩

theorem gcd_w (a b : Nat) (w : World) (ha : a ≤ 1000000000000000000) (hb : b ≤ 1000000000000000000) :
    Calls Try.prog 81 #[.int .i64 (a : Int), .int .i64 (b : Int)] w fun e w' => e = .returned (.int .i64 ((Nat.gcd a b : Nat) : Int)) ∧ Below w.heap.size w w' := by
  go_enter Try.func81, Try.ntmps81
  go_wp2
  go_loopw [0, 1] (fun x y wr => ∃ (c d : Nat), x = .int .i64 (c : Int) ∧ y = .int .i64 (d : Int) ∧ c ≤ 1000000000000000000 ∧ d ≤ 1000000000000000000 ∧ Nat.gcd c d = Nat.gcd a b ∧ Below w.heap.size w wr) (fun _ y _ => (intOf y).toNat)
  case atStart => exact ⟨a, b, rfl, rfl, ha, hb, rfl, Below.refl _ _⟩
  case round =>
    obtain ⟨c, d, rfl, rfl, hc, hd, hg, hb⟩ := hrel
    have HG := Lib.hid hg
    have HB := Lib.hid hb
    clear hg hb
    by_cases h0 : d = 0
    · have hz : ¬ (0 : Int) < (d : Int) := by omega
      have HE := Lib.hid (show c = Nat.gcd a b by rw [← HG.out, h0, Nat.gcd_zero_right])
      clear h0
      go_wp2
      go_ret
      exact ⟨by rw [← HE.out]; rfl, HB.out⟩
    · have hz : (0 : Int) < (d : Int) := by omega
      have hz2 : ((d : Int) == 0) = false := beq_no (by omega)
      have hlt := Nat.mod_lt c (show d > 0 by omega)
      have HG2 := Lib.hid (show Nat.gcd d (c % d) = Nat.gcd a b by rw [Nat.gcd_comm d, ← Nat.gcd_rec, Nat.gcd_comm, HG.out])
      obtain ⟨r, hr⟩ : ∃ r, r = c % d := ⟨_, rfl⟩
      have HR := Lib.hid (show (c : Int) % (d : Int) = (r : Int) by omega)
      rw [← hr] at hlt HG2
      clear hr h0
      go_wp2
      go_region
      all_goals
        go_wp2
        go_roundw
        case rel => exact ⟨d, r, rfl, by rw [HR.out], hd, by omega, HG2.out, HB.out.drew⟩
        case measure => simp [intOf, HR.out]; omega

theorem teOrder_any (n b : Nat) (w : World) (hn : 0 < n) (hn2 : n ≤ 2000) (hb : b ≤ 16) (hg : Nat.gcd b n = 1) :
    Calls Try.prog 133 #[.int .i64 (n : Int), .int .i64 (b : Int)] w fun e w' => e = .returned (.int .i64 ((ordN b n : Nat) : Int)) ∧ Below w.heap.size w w' := by
  have HS := Lib.hid (ord_spec hg hn)
  have HM := Lib.hid (fun x (hx : x < n) => mb_facts hb hn hn2 hx)
  have hz : ((n : Int) == 0) = false := beq_no (by omega)
  have HI := Lib.hid (fun k => it_lt (mb_into (b := b) hn) k (Nat.mod_lt 1 hn))
  have H1 := Lib.hid (show (b : Int) % (n : Int) = ((it (mb b n) 1 (1 % n) : Nat) : Int) by rw [it_one hn, Nat.pow_one]; rfl)
  have HU := Lib.hid (one_mod hn)
  obtain ⟨u, hu⟩ : ∃ u, u = 1 % n := ⟨_, rfl⟩
  rw [← hu] at HS HI H1 HU
  obtain ⟨P, hP⟩ : ∃ P, P = ordN b n := ⟨_, rfl⟩
  rw [← hP] at HS ⊢
  have p1 := HS.out.1
  have p2 := HS.out.2.1
  clear hu hP hg
  go_enter Try.func133, Try.ntmps133
  go_wp2
  go_region
  all_goals
   go_wp2
   go_loop [5, 6] (fun k x => ∃ j : Nat, 1 ≤ j ∧ j ≤ P ∧ k = .int .i64 (j : Int) ∧ x = .int .i64 ((it (mb b n) j u : Nat) : Int)) (fun k _ => P - (intOf k).toNat)
   case atStart => exact ⟨1, Nat.le_refl _, p1, rfl, by rw [← H1.out]⟩
   case round =>
     obtain ⟨j, j1, j2, rfl, rfl⟩ := hrel
     have HX := Lib.hid (HI.out j)
     have HN := Lib.hid (show it (mb b n) (j + 1) u = mb b n (it (mb b n) j u) from rfl)
     have HE := Lib.hid (show j = P → it (mb b n) j u = u from fun e => by rw [e]; exact HS.out.2.2.1)
     have HD := Lib.hid (show j < P → it (mb b n) j u ≠ u from fun e => HS.out.2.2.2 j j1 e)
     obtain ⟨x, hx⟩ : ∃ x, x = it (mb b n) j u := ⟨_, rfl⟩
     rw [← hx] at HX HN HE HD ⊢
     clear hx
     by_cases hlt : j < P
     · have hne : ((x : Int) != (u : Int)) = true := bne_yes (by have := HD.out hlt; omega)
       have hu2 := HU.out
       obtain ⟨m0, m1, m2, m3, _⟩ := HM.out x HX.out
       have HM2 := Lib.hid m2
       have hne2 : ((x : Int) != (1 : Int) % (n : Int)) = true := by rw [hu2]; exact hne
       clear m2 hu2
       go_wp2
       go_round
       case rel => exact ⟨j + 1, by omega, by omega, by go_num, by rw [HM2.out, HN.out]⟩
       case measure => simp [intOf]; omega
     · obtain rfl : j = P := by omega
       have hne2 : ((x : Int) != (1 : Int) % (n : Int)) = false := by rw [HU.out]; exact bne_no (by have := HE.out rfl; omega)
       go_wp2
       go_ret
       exact ⟨rfl, (Below.refl _ _).drew⟩

theorem order_any (n b : Nat) (w : World) (hn : 0 < n) (hn2 : n ≤ 2000) (hb : b ≤ 16) (hg : Nat.gcd b n = 1) :
    Calls Try.prog 82 #[.int .i64 (b : Int), .int .i64 (n : Int)] w fun e w' => e = .returned (.int .i64 ((ordN b n : Nat) : Int)) ∧ w = w' := by
  have HS := Lib.hid (ord_spec hg hn)
  have HM := Lib.hid (fun x (hx : x < n) => mb_facts hb hn hn2 hx)
  have hz : ((n : Int) == 0) = false := beq_no (by omega)
  have HI := Lib.hid (fun k => it_lt (mb_into (b := b) hn) k (Nat.mod_lt 1 hn))
  have H1 := Lib.hid (show (b : Int) % (n : Int) = ((it (mb b n) 1 (1 % n) : Nat) : Int) by rw [it_one hn, Nat.pow_one]; rfl)
  have HU := Lib.hid (one_mod hn)
  obtain ⟨u, hu⟩ : ∃ u, u = 1 % n := ⟨_, rfl⟩
  rw [← hu] at HS HI H1 HU
  obtain ⟨P, hP⟩ : ∃ P, P = ordN b n := ⟨_, rfl⟩
  rw [← hP] at HS ⊢
  have p1 := HS.out.1
  have p2 := HS.out.2.1
  clear hu hP hg
  go_enter Try.func82, Try.ntmps82
  go_wp2
  go_loop [5, 6] (fun k x => ∃ j : Nat, 1 ≤ j ∧ j ≤ P ∧ k = .int .i64 (j : Int) ∧ x = .int .i64 ((it (mb b n) j u : Nat) : Int)) (fun k _ => P - (intOf k).toNat)
  case atStart => exact ⟨1, Nat.le_refl _, p1, rfl, by rw [← H1.out]⟩
  case round =>
    obtain ⟨j, j1, j2, rfl, rfl⟩ := hrel
    have HX := Lib.hid (HI.out j)
    have HN := Lib.hid (show it (mb b n) (j + 1) u = mb b n (it (mb b n) j u) from rfl)
    have HE := Lib.hid (show j = P → it (mb b n) j u = u from fun e => by rw [e]; exact HS.out.2.2.1)
    have HD := Lib.hid (show j < P → it (mb b n) j u ≠ u from fun e => HS.out.2.2.2 j j1 e)
    obtain ⟨x, hx⟩ : ∃ x, x = it (mb b n) j u := ⟨_, rfl⟩
    rw [← hx] at HX HN HE HD ⊢
    clear hx
    by_cases hlt : j < P
    · have hne : ((x : Int) != (u : Int)) = true := bne_yes (by have := HD.out hlt; omega)
      have hu2 := HU.out
      obtain ⟨m0, m1, m2, m3, _⟩ := HM.out x HX.out
      have HM2 := Lib.hid m2
      have hne2 : ((x : Int) != (1 : Int) % (n : Int)) = true := by rw [hu2]; exact hne
      clear m2 hu2
      go_wp2
      go_round
      case rel => exact ⟨j + 1, by omega, by omega, by go_num, by rw [HM2.out, HN.out]⟩
      case measure => simp [intOf]; omega
    · obtain rfl : j = P := by omega
      have hne2 : ((x : Int) != (1 : Int) % (n : Int)) = false := by rw [HU.out]; exact bne_no (by have := HE.out rfl; omega)
      go_wp2
      go_ret
      exact ⟨rfl, rfl⟩

/-- The order, if it is one. -/
def ROrd (n b : Int) : Option Int := if Bas b ∧ Den n ∧ Nat.gcd b.toNat n.toNat = 1 then some ((ordN b.toNat n.toNat : Nat) : Int) else none
theorem ROrd_noD {n b : Int} (h : ¬ Den n) : ROrd n b = none := if_neg (fun c => h c.2.1)
theorem ROrd_noB {n b : Int} (h : ¬ Bas b) : ROrd n b = none := if_neg (fun c => h c.1)
theorem ROrd_noG {n b : Int} (h : ¬ Nat.gcd b.toNat n.toNat = 1) : ROrd n b = none := if_neg (fun c => h c.2.2)

theorem impl_OrderOf (n b : Int) (w : World) :
    Calls Try.prog 20 #[.int .i64 n, .int .i64 b] w fun e w' => e = .returned (optRes (ROrd n b)) ∧ Below w.heap.size w w' := by
  by_cases hD : Den n
  · by_cases hB : Bas b
    · have hd := decide_eq_true hD
      have hb := decide_eq_true hB
      have HDn := Lib.hid hD
      have HBs := Lib.hid hB
      obtain ⟨d0, d1⟩ := hD
      obtain ⟨b0, b1⟩ := hB
      obtain ⟨N, rfl⟩ : ∃ N : Nat, n = (N : Int) := ⟨n.toNat, by omega⟩
      obtain ⟨B, rfl⟩ : ∃ B : Nat, b = (B : Int) := ⟨b.toNat, by omega⟩
      have HG := Lib.hid (fun w' => gcd_w B N w' (by omega) (by omega))
      have hg1 : 1 ≤ Nat.gcd B N := Nat.gcd_pos_of_pos_left N (by omega)
      have hg2 : Nat.gcd B N ≤ B := Nat.gcd_le_left N (by omega)
      by_cases hg : Nat.gcd B N = 1
      · have HO := Lib.hid (fun w' => order_any N B w' (by omega) (by omega) (by omega) hg)
        have HR := Lib.hid (show ROrd (N : Int) (B : Int) = some ((ordN B N : Nat) : Int) from if_pos ⟨HBs.out, HDn.out, hg⟩)
        rw [HR.out]
        obtain ⟨g, hgg⟩ : ∃ g, g = Nat.gcd B N := ⟨_, rfl⟩
        rw [← hgg] at HG hg hg1 hg2
        obtain ⟨P, hP⟩ : ∃ g, g = ordN B N := ⟨_, rfl⟩
        rw [← hP] at HO ⊢
        subst hg
        clear hgg hP HR
        go_enter Try.func20, Try.ntmps20
        go_wp2_with (first | (go_at_call 80; refine (isDenominator_any _ _).mono ?_; rintro e w1 ⟨rfl, rfl⟩) | (go_at_call 76; refine (isBase_any _ _).mono ?_; rintro e w1 ⟨rfl, rfl⟩) | (go_at_call 81; refine (HG.out _).mono ?_; rintro e w1 ⟨rfl, hbl⟩; have HB := Lib.hid hbl; clear hbl) | (go_at_call 82; refine (HO.out _).mono ?_; rintro e w1 ⟨rfl, rfl⟩))
        go_ret2
        exact ⟨rfl, HB.out⟩
      · have HR := Lib.hid (show ROrd (N : Int) (B : Int) = none from ROrd_noG hg)
        rw [HR.out]
        obtain ⟨g, hgg⟩ : ∃ g, g = Nat.gcd B N := ⟨_, rfl⟩
        rw [← hgg] at HG hg hg1 hg2
        have hg3 : (1 : Int) < (g : Int) := by omega
        clear hgg HR hg
        go_enter Try.func20, Try.ntmps20
        go_wp2_with (first | (go_at_call 80; refine (isDenominator_any _ _).mono ?_; rintro e w1 ⟨rfl, rfl⟩) | (go_at_call 76; refine (isBase_any _ _).mono ?_; rintro e w1 ⟨rfl, rfl⟩) | (go_at_call 81; refine (HG.out _).mono ?_; rintro e w1 ⟨rfl, hbl⟩; have HB := Lib.hid hbl; clear hbl))
        go_ret2
        exact ⟨rfl, HB.out⟩
    · have hd := decide_eq_true hD
      have hb := decide_eq_false hB
      have HR := Lib.hid (ROrd_noB (n := n) hB)
      rw [HR.out]
      clear hD hB
      go_enter Try.func20, Try.ntmps20
      go_wp2_with (first | (go_at_call 80; refine (isDenominator_any _ _).mono ?_; rintro e w1 ⟨rfl, rfl⟩) | (go_at_call 76; refine (isBase_any _ _).mono ?_; rintro e w1 ⟨rfl, rfl⟩))
      go_ret2
      exact ⟨rfl, Below.refl _ _⟩
  · have hd := decide_eq_false hD
    have HR := Lib.hid (ROrd_noD (b := b) hD)
    rw [HR.out]
    clear hD
    go_enter Try.func20, Try.ntmps20
    go_wp2_with (first | (go_at_call 80; refine (isDenominator_any _ _).mono ?_; rintro e w1 ⟨rfl, rfl⟩))
    go_ret2
    exact ⟨rfl, Below.refl _ _⟩

end Go.Proofs.Ytgiabadkbfbilab
