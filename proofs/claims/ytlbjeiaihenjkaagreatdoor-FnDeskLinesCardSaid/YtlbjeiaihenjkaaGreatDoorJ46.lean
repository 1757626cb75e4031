/-
  Joint text of X1, X2: what each proves stands ahead of it.
-/
import Derived.Test.YtlbjeiaihenjkaaGreatDoorJ44
import Derived.Test.YtlbjeiaihenjkaaGreatDoorJ00
import Derived.Test.YtlbjeiaihenjkaaGreatDoorJ35
/- from X1: The model's failed lines of a script.  -/
namespace Go.Proofs.YtlbjeiaihenjkaaGreatDoor
open Go.RowKit
set_option linter.unusedVariables false
set_option linter.unusedSimpArgs false
set_option maxRecDepth 100000

/-- A reply that tells a failure. -/
def noW (t : Tx) : Bool := t == [110, 111] || t == [119, 104, 97, 116]
/-- The numbers of the lines whose replies tell a failure; k lines came before. -/
def flT : Nat → List Tx → List Int
  | _, [] => []
  | k, t :: ts => if noW t then ((k : Int) + 1) :: flT (k + 1) ts else flT (k + 1) ts
theorem flT_snoc : ∀ (ts : List Tx) (k : Nat) (t : Tx), flT k (ts ++ [t]) = flT k ts ++ (if noW t then [((k + ts.length : Nat) : Int) + 1] else [])
  | [], k, t => by simp [flT]
  | x :: ts, k, t => by
    have e := flT_snoc ts (k + 1) t
    have h : k + 1 + ts.length = k + (ts.length + 1) := by omega
    rw [h] at e
    simp only [List.cons_append, flT, List.length_cons]
    by_cases hx : noW x = true
    · rw [if_pos hx, if_pos hx, e, List.cons_append]
    · rw [if_neg hx, if_neg hx, e]
theorem flT_len : ∀ (ts : List Tx) (k : Nat), (flT k ts).length ≤ ts.length
  | [], k => Nat.le_refl _
  | x :: ts, k => by
    have := flT_len ts (k + 1)
    unfold flT
    split <;> simp <;> omega

theorem spec_FailedLines (S : Tx) (w : World) : Calls Tryz.prog 20 #[str S] w fun e w' => ∃ v, e = .returned (.tuple #[v, .bool (decide (scOk S))]) ∧ Rd w' w.heap.size v (flT 0 ((scR S).map fun r => r.2.2.txt)) ∧ Below w.heap.size w w' := by
  have HC := Lib.hid (coRun_any S)
  obtain ⟨q, hq⟩ : ∃ q, q = decide (scOk S) := ⟨_, rfl⟩
  obtain ⟨n, hn⟩ : ∃ n, n = (scD S).1 := ⟨_, rfl⟩
  obtain ⟨b, hb⟩ : ∃ b, b = (scD S).2 := ⟨_, rfl⟩
  obtain ⟨Ls, hL⟩ : ∃ Ls, Ls = (scR S).map fun r => r.2.2.txt := ⟨_, rfl⟩
  have e1 : ((scR S).map fun r => str r.2.2.txt) = Ls.map str := by rw [hL, List.map_map]; rfl
  have hl50 : Ls.length ≤ 50 := by
    rw [hL, List.length_map]
    unfold scR
    by_cases h : scOk S
    · rw [if_pos h, runS_len, scL_len]; exact h.2.2
    · rw [if_neg h]; simp
  rw [← hq, ← hn, ← hb, e1] at HC
  rw [← hq, ← hL]
  clear hq hn hb hL e1
  go_enter Tryz.func20, Tryz.ntmps20
  go_wp2_with fail
  refine (HC.out _).mono ?_
  rintro e w1 ⟨v, rfl, hr, hb⟩
  obtain ⟨a, K, cap, hv, hK, hca, hcells⟩ : ∃ a K cap, v = .slice a K cap ∧ K = Ls.length ∧ K ≤ cap ∧ (K = 0 ∨ ∃ g, a = some ⟨g, 0, none⟩ ∧ g < w1.heap.size ∧ ∀ j x, Ls[j]? = some x → w1.cell? ⟨g, j, none⟩ = some (str x)) := by
    rcases hr.cases with ⟨rfl, e0⟩ | ⟨g, cap, rfl⟩
    · have hz : Ls.length = 0 := by have := congrArg List.length e0; simpa using this
      exact ⟨none, 0, 0, rfl, hz.symm, Nat.le_refl _, .inl rfl⟩
    · refine ⟨_, _, _, rfl, List.length_map _, hr.at.2.2.2.1, .inr ⟨g, rfl, hr.at.2.2.1, fun j x hx => ?_⟩⟩
      have hj : j < (Ls.map str).length := by rw [List.length_map]; exact (List.getElem?_eq_some_iff.1 hx).1
      rw [hr.at.2.2.2.2.2.1 j hj, List.getElem_map, (List.getElem?_eq_some_iff.1 hx).2]
  subst hv
  have HCC := Lib.hid hcells
  have HB := Lib.hid hb
  have HKK := Lib.hid hK
  have hk50 : K ≤ 50 := by omega
  clear hr hb hcells hK
  go_wp2
  have HST := Lib.hid (alloc_belowD w1 (.cells #[.int .i64 n, .int .i64 b] 24))
  go_loopw [7, 18] (fun o i wr => ∃ k : Nat, k ≤ K ∧ i = .int .i64 (k : Int) ∧ Rd wr w1.heap.size o (flT 0 (Ls.take k)) ∧ Below w1.heap.size w1 wr) (fun _ i _ => K - (intOf i).toNat)
  case atStart => exact ⟨0, Nat.zero_le _, rfl, by simpa [flT] using Rd.nil _ _, by first | exact HST.out | exact Below.refl _ _⟩
  case round =>
    obtain ⟨k, hk, rfl, hr, hb⟩ := hrel
    have HR := Lib.hid hr
    have HBB := Lib.hid hb
    clear hr hb
    by_cases hlt : k < K
    · rcases HCC.out with h0 | ⟨g, rfl, hg, hc⟩
      · omega
      obtain ⟨x, hx⟩ : ∃ x, Ls[k]? = some x := ⟨Ls[k]'(by rw [← HKK.out]; exact hlt), List.getElem?_eq_getElem _⟩
      have hcell := (HBB.out.cell (p := ⟨g, k, none⟩) hg).trans (hc k x hx)
      have hsn : Ls.take (k + 1) = Ls.take k ++ [x] := by rw [List.take_add_one, hx]; rfl
      have hlk : (Ls.take k).length = k := by rw [List.length_take, ← HKK.out]; omega
      have HF := Lib.hid (show flT 0 (Ls.take (k + 1)) = flT 0 (Ls.take k) ++ (if noW x then [(k : Int) + 1] else []) by rw [hsn, flT_snoc, hlk, Nat.zero_add])
      have HFL := Lib.hid (show (flT 0 (Ls.take k)).length ≤ 50 by have := flT_len (Ls.take k) 0; omega)
      have HLT := Lib.hid hlt
      have hk2 : k ≤ 50 := by omega
      have HX := Lib.hid hx
      clear hx hsn hlk hc
      by_cases hw : noW x = true
      · have HF2 := Lib.hid (show flT 0 (Ls.take (k + 1)) = flT 0 (Ls.take k) ++ [(k : Int) + 1] by rw [HF.out, if_pos hw])
        have HN : (x == [110, 111]) = true ∨ ((x == [110, 111]) = false ∧ (x == [119, 104, 97, 116]) = true) := by
          cases h1 : (x == [110, 111]) with
          | true => exact .inl rfl
          | false => exact .inr ⟨rfl, by unfold noW at hw; rw [h1] at hw; simpa using hw⟩
        clear hw HF
        rcases HN with q1 | ⟨q1, q2⟩
        all_goals
          go_wp2_with (at_builtin; refine wpList_appR rfl _ _ rfl w1.heap.size w1.heap.size _ _ (flT 0 (Ls.take k)) [(k : Int) + 1] rfl rfl (HR.out.alloc _) (Rd.litB _ _ _ HBB.out.size) (by have := HFL.out; simp; omega) (by have := HBB.out.size; simp; omega) ?_; intro v1 w2 hr1 hg1 hb2; have HR2 := Lib.hid hr1; have HB2 := Lib.hid ((HBB.out.alloc HBB.out.size _).trans hb2); clear hr1 hg1 hb2)
          go_roundw
          case rel => exact ⟨k + 1, by have := HLT.out; omega, by go_num, by rw [HF2.out]; exact HR2.out, HB2.out⟩
          case measure => simp [intOf]; omega
      · have HF2 := Lib.hid (show flT 0 (Ls.take (k + 1)) = flT 0 (Ls.take k) by rw [HF.out, if_neg hw, List.append_nil])
        have q1 : (x == [110, 111]) = false := by
          cases h1 : (x == [110, 111]) with
          | false => rfl
          | true => exact absurd (by unfold noW; rw [h1]; rfl) hw
        have q2 : (x == [119, 104, 97, 116]) = false := by
          cases h1 : (x == [119, 104, 97, 116]) with
          | false => rfl
          | true => exact absurd (by unfold noW; rw [h1, q1]; rfl) hw
        clear hw HF
        go_wp2
        go_roundw
        case rel => exact ⟨k + 1, by have := HLT.out; omega, by go_num, by rw [HF2.out]; exact HR.out, HBB.out⟩
        case measure => simp [intOf]; omega
    · obtain rfl : k = K := by omega
      have hall : Ls.take k = Ls := List.take_of_length_le (by rw [HKK.out]; exact Nat.le_refl _)
      rw [hall] at HR
      go_wp2
      go_ret2
      exact ⟨_, rfl, HR.out.mono HB.out.size, HB.out.trans (HBB.out.mono HB.out.size)⟩

end Go.Proofs.YtlbjeiaihenjkaaGreatDoor

/- from X2: Replies, plain: a line that does not fail never replies with the words of a failure.  -/
namespace Go.Proofs.YtlbjeiaihenjkaaGreatDoor
open Go.RowKit
set_option linter.unusedVariables false
set_option linter.unusedSimpArgs false
set_option maxRecDepth 100000

/-- A text whose letters all lie below 'n'. -/
def Lo (t : Tx) : Prop := ∀ c ∈ t, c.toNat < 110
theorem lo_noW {t : Tx} (h : Lo t) : noW t = false := by
  unfold noW
  have h1 : (t == [110, 111]) = false := beq_false_of_ne (fun e => by have := h 110 (by rw [e]; simp); simp at this)
  have h2 : (t == [119, 104, 97, 116]) = false := beq_false_of_ne (fun e => by have := h 119 (by rw [e]; simp); simp at this)
  rw [h1, h2]; rfl
theorem lo_orD {t : Tx} (h : Lo t) : Lo (orD t) := by
  unfold orD
  by_cases e : t = []
  · rw [if_pos e]; intro c hc; simp at hc; subst hc; decide
  · rw [if_neg e]; exact h
theorem lo_ltr : ∀ d : Fin 16, (ltr d.val).toNat < 110 := by decide
theorem lo_text (n b : Int) : Lo (RText n b) := by
  unfold RText
  by_cases h : Num n ∧ Bas b
  · rw [if_pos h]
    intro c hc
    unfold txt at hc
    obtain ⟨x, hx, rfl⟩ := List.mem_map.1 hc
    have := dgs_all b n h.2.1 h.1.1 x hx
    have hb := h.2.2
    exact lo_ltr ⟨x.toNat, by omega⟩
  · rw [if_neg h]; intro c hc; simp at hc
theorem lo_digit : ∀ d : Fin 10, (UInt8.ofNat (48 + d.val)).toNat < 110 := by decide
theorem lo_itoaN : ∀ (f N : Nat), N ≤ f → Lo (Lib.itoa (N : Int))
  | 0, N, h => by
    obtain rfl : N = 0 := by omega
    rw [itoa_small (by omega)]
    intro c hc; rw [List.mem_singleton.1 hc]; exact lo_digit ⟨0, by omega⟩
  | f + 1, N, h => by
    by_cases hs : N < 10
    · rw [itoa_small hs]
      intro c hc; rw [List.mem_singleton.1 hc]; exact lo_digit ⟨N, hs⟩
    · rw [itoa_big hs]
      intro c hc
      rcases List.mem_append.1 hc with hc | hc
      · exact lo_itoaN f (N / 10) (by omega) c hc
      · rw [List.mem_singleton.1 hc]; exact lo_digit ⟨N % 10, by omega⟩
theorem lo_itoa {z : Int} (h : 0 ≤ z) : Lo (Lib.itoa z) := by
  have := lo_itoaN z.toNat z.toNat (Nat.le_refl _)
  rwa [Int.toNat_of_nonneg h] at this
theorem lo_tail : ∀ (r : List Tx), (∀ t ∈ r, Lo t) → Lo (Lib.joinTail [44] r)
  | [], _ => fun c hc => by simp [Lib.joinTail] at hc
  | x :: r, h => fun c hc => by
    have e : Lib.joinTail [44] (x :: r) = 44 :: (x ++ Lib.joinTail [44] r) := by simp [Lib.joinTail]
    rw [e] at hc
    rcases List.mem_cons.1 hc with rfl | hc
    · decide
    rcases List.mem_append.1 hc with hc | hc
    · exact h x (by simp) c hc
    · exact lo_tail r (fun t ht => h t (by simp [ht])) c hc
theorem lo_jnT {l : List Int} (h : ∀ x ∈ l, 0 ≤ x) : Lo (jnT l) := by
  unfold jnT
  cases l with
  | nil => intro c hc; simp [Lib.join_nil] at hc
  | cons x l =>
    rw [List.map_cons, Lib.join_cons]
    intro c hc
    rcases List.mem_append.1 hc with hc | hc
    · exact lo_itoa (h x (by simp)) c hc
    · refine lo_tail _ (fun t ht => ?_) c hc
      obtain ⟨y, hy, rfl⟩ := List.mem_map.1 ht
      exact lo_itoa (h y (by simp [hy]))

theorem lo_lts (l : List Int) : Lo (lts l) := by
  intro c hc
  unfold lts at hc
  obtain ⟨x, hx, rfl⟩ := List.mem_map.1 hc
  unfold let1
  split <;> decide

/-- An outcome that replies with no words of a failure unless it fails. -/
def okR (r : Int × Int × Rp) : Prop := ∀ t, r.2.2 = .say t → noW t = false
theorem ok_bec (n b : Int) (o : Option Int) : okR (becF n b o) := by
  intro t h
  cases o with
  | none => simp [becF] at h
  | some m =>
    simp only [becF, Rp.say.injEq] at h
    subst h
    exact lo_noW (lo_text m b)
theorem ok_say (n b : Int) (o : Option Tx) (ho : ∀ t, o = some t → Lo t) : okR (sayF n b o) := by
  intro t h
  cases o with
  | none => simp [sayF] at h
  | some m =>
    simp only [sayF, Rp.say.injEq] at h
    subst h
    exact lo_noW (lo_orD (ho m rfl))
theorem ok_num (n b : Int) (o : Option Int) (ho : Pos o) : okR (numR n b o) := ok_say n b _ (fun t h => by
  cases o with
  | none => simp at h
  | some z => simp at h; subst h; exact lo_itoa (ho z rfl).1)
theorem ok_lst (n b : Int) (ok : Bool) (l : List Int) (h : Nice l) : okR (lstF n b ok l) := ok_say n b _ (fun t ht => by
  cases ok with
  | false => simp at ht
  | true => simp at ht; subst ht; exact lo_jnT (fun x hx => (h.2 x hx).1))
theorem ok_ite {P : Prop} [Decidable P] {x y : Int × Int × Rp} (h1 : okR x) (h2 : okR y) : okR (if P then x else y) := by
  by_cases h : P
  · rw [if_pos h]; exact h1
  · rw [if_neg h]; exact h2
theorem ok_what (n b : Int) : okR (n, b, .what) := fun t h => by simp at h
theorem ok_no (n b : Int) : okR (n, b, .no) := fun t h => by simp at h
theorem ok_alone {n b : Int} (hN : Num n) (hB : Bas b) (x : Tx) : okR (aloneF n b x) :=
  ok_ite (ok_bec _ _ _) <| ok_ite (ok_bec _ _ _) <| ok_ite (ok_bec _ _ _) <| ok_ite (ok_bec _ _ _) <| ok_ite (ok_bec _ _ _) <| ok_ite (ok_bec _ _ _) <|
  ok_ite (fun t h => by simp at h; subst h; exact lo_noW (lo_text n b)) <| ok_ite (ok_lst n b true _ (dgs_nice hN hB)) <| ok_ite (ok_num n b _ (sum_pos n b)) <| ok_ite (ok_num n b _ (root_pos n b)) <| ok_ite (ok_num n b _ (ways_pos n b)) <|
  ok_ite (fun t h => by
    simp only [Rp.say.injEq] at h
    subst h
    cases hap b.toNat n.toNat <;> rfl) <| ok_ite (ok_num n b _ (steps_pos n)) (ok_what n b)
theorem ok_num2 (n b : Int) (x : Tx) (k : Int) : okR (numF2 n b x k) := by
  refine ok_ite ?_ <| ok_ite (ok_bec _ _ _) <| ok_ite (ok_lst n b _ _ (run_nice n b k)) <| ok_ite (ok_lst n b _ _ (own_nice b k)) <| ok_ite (ok_say n b _ fun t h => ?_) (ok_what n b)
  · exact ok_ite (fun t h => by simp only [Rp.say.injEq] at h; subst h; rfl) (ok_no n b)
  · unfold RWd at h
    obtain ⟨l, _, rfl⟩ := Option.map_eq_some_iff.1 h
    exact lo_lts l
theorem ok_with (n b : Int) (x y : Tx) : okR (withF n b x y) := by
  refine ok_ite ?_ <| ok_ite (ok_ite (ok_num n b _ (word_pos _)) (ok_what n b)) ?_
  · cases h : RParse b y with
    | some m => exact ok_bec n b (some m)
    | none => exact ok_what n b
  · cases h : rdN y with
    | some k => exact ok_num2 n b x k
    | none => exact ok_what n b
theorem ok_line {n b : Int} (hN : Num n) (hB : Bas b) (ws : List Tx) : okR (lineF n b ws) := by
  unfold lineF
  split
  · exact ok_alone hN hB _
  · exact ok_with n b _ _
  · exact ok_what n b
/-- A line's reply tells a failure just if it fails. -/
def failR : Rp → Bool
  | .say _ => false
  | _ => true
theorem noW_fail {r : Int × Int × Rp} (h : okR r) : noW r.2.2.txt = failR r.2.2 := by
  obtain ⟨n, b, rp⟩ := r
  cases rp with
  | no => rfl
  | what => rfl
  | say t => exact h t rfl
theorem runS_ok : ∀ (ls : List Tx) (n b : Int), Num n → Bas b → ∀ r ∈ runS n b ls, okR r
  | [], _, _, _, _, r, hr => by simp [runS] at hr
  | l :: ls, n, b, h1, h2, r, hr => by
    rcases List.mem_cons.1 hr with rfl | hr
    · exact ok_line h1 h2 _
    · exact runS_ok ls _ _ (line_dk h1 h2 _).1 (line_dk h1 h2 _).2 r hr

end Go.Proofs.YtlbjeiaihenjkaaGreatDoor
