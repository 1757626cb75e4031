/-
  Runs of words: plain mathematics.
-/
import Derived.Test.YtadjjmlneghklaaPA
import Derived.Test.YtadjjmlneghklaaJQ
namespace Go.Proofs.Ytadjjmlneghklaa
set_option linter.unusedVariables false
set_option linter.unusedSimpArgs false

/-- Is the number behind k + 1 steps among the k + 1 before it? -/
def bk (f : Nat → Nat) (x k : Nat) : Bool := (List.range (k + 1)).any fun i => it f i x == it f (k + 1) x
theorem bk_iff {f : Nat → Nat} {x k : Nat} : bk f x k = true ↔ ∃ i, i ≤ k ∧ it f i x = it f (k + 1) x := by
  simp only [bk, List.any_eq_true, List.mem_range, beq_iff_eq]
  constructor
  · rintro ⟨i, h1, h2⟩; exact ⟨i, by omega, h2⟩
  · rintro ⟨i, h1, h2⟩; exact ⟨i, by omega, h2⟩
/-- How many numbers a run has. -/
def rl (f : Nat → Nat) (M x : Nat) : Nat := fst (bk f x) M + 1
/-- How many of them are not on the cycle. -/
def tl (f : Nat → Nat) (M x : Nat) : Nat := fst (fun i => it f i x == it f (rl f M x) x) M

theorem rl_spec {f : Nat → Nat} {M x : Nat} (h : ∃ k, k ≤ M ∧ bk f x k = true) : 1 ≤ rl f M x ∧ rl f M x ≤ M + 1 ∧ tl f M x < rl f M x ∧ it f (tl f M x) x = it f (rl f M x) x ∧
    (∀ i, i < tl f M x → it f i x ≠ it f (rl f M x) x) ∧ (∀ i j, i < j → j < rl f M x → it f i x ≠ it f j x) := by
  obtain ⟨h1, h2, h3⟩ := fst_spec M (bk f x) h
  obtain ⟨i, h4, h5⟩ := bk_iff.1 h2
  have e : rl f M x = fst (bk f x) M + 1 := rfl
  obtain ⟨k1, k2, k3⟩ := fst_spec M (fun i => it f i x == it f (rl f M x) x) ⟨i, by omega, by rw [e]; simpa using h5⟩
  have k2' : it f (tl f M x) x = it f (rl f M x) x := eq_of_beq k2
  refine ⟨by omega, by omega, ?_, k2', ?_, ?_⟩
  · have : ¬ i < tl f M x := fun hi => by
      have h7 : (it f i x == it f (rl f M x) x) = false := k3 i hi
      rw [e, h5] at h7
      simp at h7
    omega
  · intro j hj he
    have h7 : (it f j x == it f (rl f M x) x) = false := k3 j hj
    rw [he] at h7
    simp at h7
  · intro a b hab hb he
    have := h3 (b - 1) (by omega)
    rw [← Bool.not_eq_true, bk_iff] at this
    exact this ⟨a, by omega, by rw [show b - 1 + 1 = b from by omega]; exact he⟩
/-- The run is over where a number comes again. -/
theorem rl_at {f : Nat → Nat} {M x k i : Nat} (h : ∃ k, k ≤ M ∧ bk f x k = true) (hk : k ≤ rl f M x) (hi : i < k) (he : it f i x = it f k x) : k = rl f M x ∧ i = tl f M x := by
  obtain ⟨h1, h2, h3, h4, h5, h6⟩ := rl_spec h
  have hk2 : k = rl f M x := by
    by_cases hlt : k < rl f M x
    · exact absurd he (h6 i k hi hlt)
    · omega
  subst hk2
  refine ⟨rfl, ?_⟩
  by_cases ha : i < tl f M x
  · exact absurd he (h5 i ha)
  · by_cases hb : tl f M x < i
    · exact absurd (h4.trans he.symm) (h6 _ _ hb hi)
    · omega
theorem rl_on {f : Nat → Nat} {M x k : Nat} (h : ∃ k, k ≤ M ∧ bk f x k = true) (hk : k ≤ rl f M x) (hn : ∀ i, i < k → it f i x ≠ it f k x) : k < rl f M x := by
  obtain ⟨h1, h2, h3, h4, h5, h6⟩ := rl_spec h
  by_cases he : k = rl f M x
  · subst he
    exact absurd h4 (hn _ h3)
  · omega

theorem mem_ndr : ∀ {k m : Nat} {l : List Int}, l.length = k → (∀ x ∈ l, 0 ≤ x ∧ x ≤ (m : Int)) → l.Pairwise (fun a b => b ≤ a) → l ∈ ndr k m
  | 0, _, l, hl, _, _ => by obtain rfl := List.eq_nil_of_length_eq_zero hl; simp [ndr]
  | k + 1, m, l, hl, hx, hp => by
    obtain ⟨y, r, rfl, hr⟩ := len_cases hl
    obtain ⟨h1, h2⟩ := hx y (by simp)
    rw [List.pairwise_cons] at hp
    unfold ndr
    rw [List.mem_flatMap]
    refine ⟨y.toNat, List.mem_range.2 (by omega), List.mem_map.2 ⟨r, mem_ndr hr (fun x hm => ⟨(hx x (by simp [hm])).1, by have := hp.1 x hm; omega⟩) hp.2, ?_⟩⟩
    rw [show ((y.toNat : Nat) : Int) = y by omega]
theorem of_ndr : ∀ {k m : Nat} {l : List Int}, l ∈ ndr k m → l.length = k ∧ (∀ x ∈ l, 0 ≤ x ∧ x ≤ (m : Int)) ∧ l.Pairwise (fun a b => b ≤ a)
  | 0, _, l, h => by simp [ndr] at h; subst h; simp
  | k + 1, m, l, h => by
    unfold ndr at h
    rw [List.mem_flatMap] at h
    obtain ⟨x, hx, h⟩ := h
    rw [List.mem_map] at h
    obtain ⟨r, hr, rfl⟩ := h
    obtain ⟨h1, h2, h3⟩ := of_ndr hr
    rw [List.mem_range] at hx
    refine ⟨by simp [h1], fun y hy => ?_, List.pairwise_cons.2 ⟨fun y hy => (h2 y hy).2, h3⟩⟩
    rcases List.mem_cons.1 hy with rfl | hy
    · omega
    · have := h2 y hy; omega

theorem gp_down (xs : List Int) : (gp xs).Pairwise (fun a b => b ≤ a) := by
  rw [List.pairwise_iff_getElem]
  intro i j hi hj hij
  unfold gp at hi hj ⊢
  have hs := srt_sorted xs
  have hi' := hi
  have hj' := hj
  rw [gpU_len] at hi' hj'
  rw [gpU_get (srt xs) _ i rfl hi (by omega) (by omega), gpU_get (srt xs) _ j rfl hj (by omega) (by omega)]
  have h1 := List.pairwise_iff_getElem.1 hs i j (by omega) (by omega) hij
  have h2 := List.pairwise_iff_getElem.1 hs ((srt xs).length - 1 - j) ((srt xs).length - 1 - i) (by omega) (by omega) (by omega)
  omega
theorem gp_mem {b : Int} {W M : Nat} {xs : List Int} (hb : b = ((M + 1 : Nat) : Int)) (hl : xs.length = W) (hx : ∀ x ∈ xs, 0 ≤ x ∧ x ≤ b - 1) : gp xs ∈ ndr (W / 2) M :=
  mem_ndr (by rw [gp_len, hl]) (fun x h => by have := gp_all hx x h; omega) (gp_down xs)

/-- The value behind a value. -/
def sN (b : Int) (W v : Nat) : Nat := (stv b (wd b W (v : Int))).toNat
theorem sN_cast {b : Int} {W : Nat} (hb : 2 ≤ b) (hb' : b ≤ 16) (hW : W ≤ 8) (v : Nat) : ((sN b W v : Nat) : Int) = stv b (wd b W (v : Int)) := by
  have := (stv_bd (xs := wd b W (v : Int)) hb hb' (by rw [wd_len]; exact hW) (wd_all hb W _)).1
  unfold sN; omega
theorem sN_bd {b : Int} {W : Nat} (hb : 2 ≤ b) (hb' : b ≤ 16) (hW : W ≤ 8) (v : Nat) : ((sN b W v : Nat) : Int) < b ^ W := by
  have := (stv_bd (xs := wd b W (v : Int)) hb hb' (by rw [wd_len]; exact hW) (wd_all hb W _)).2
  rw [wd_len] at this
  rw [sN_cast hb hb' hW]; exact this

/-- The words of a run. -/
def rw' (b : Int) (W v k : Nat) : List Int := wd b W ((it (sN b W) k v : Nat) : Int)
theorem rw_len (b : Int) (W v k : Nat) : (rw' b W v k).length = W := wd_len _ _ _
theorem rw_all {b : Int} (hb : 2 ≤ b) (W v k : Nat) : ∀ x ∈ rw' b W v k, 0 ≤ x ∧ x ≤ b - 1 := wd_all hb _ _
theorem rw_succ {b : Int} {W : Nat} (hb : 2 ≤ b) (hb' : b ≤ 16) (hW : W ≤ 8) (v k : Nat) : rw' b W v (k + 1) = wd b W (stv b (rw' b W v k)) := by
  unfold rw'
  rw [show it (sN b W) (k + 1) v = sN b W (it (sN b W) k v) from rfl, sN_cast hb hb' hW]
theorem it_bd {b : Int} {W : Nat} (hb : 2 ≤ b) (hb' : b ≤ 16) (hW : W ≤ 8) {v : Nat} (hv : (v : Int) < b ^ W) : ∀ k, ((it (sN b W) k v : Nat) : Int) < b ^ W
  | 0 => hv
  | k + 1 => sN_bd hb hb' hW _
theorem rw_inj {b : Int} {W : Nat} (hb : 2 ≤ b) (hb' : b ≤ 16) (hW : W ≤ 8) {v : Nat} (hv : (v : Int) < b ^ W) {i j : Nat} : rw' b W v i = rw' b W v j ↔ it (sN b W) i v = it (sN b W) j v := by
  constructor
  · intro h
    have := wd_inj hb (Int.natCast_nonneg _) (it_bd hb hb' hW hv i) (Int.natCast_nonneg _) (it_bd hb hb' hW hv j) h
    omega
  · intro h; unfold rw'; rw [h]

/-- The bound of a run. -/
def RM : Nat := 3876
theorem bk_ex {b : Int} {W M : Nat} (hM : b = ((M + 1 : Nat) : Int)) (h1 : 1 ≤ M) (h2 : M ≤ 15) (hW : W ≤ 8) (v : Nat) : ∃ k, k ≤ RM ∧ bk (sN b W) v k = true := by
  show ∃ k, k ≤ 3876 ∧ bk (sN b W) v k = true
  have hb : 2 ≤ b := by omega
  have hb' : b ≤ 16 := by omega
  have hbd := ndr_bd (k := W / 2) (m := M) (by omega) h2
  have hmem : ∀ i, gp (rw' b W v i) ∈ ndr (W / 2) M := fun i => gp_mem hM (rw_len b W v i) (rw_all hb W v i)
  obtain ⟨i, j, hij, hj, he⟩ := pigeon 3876 (fun i => (ndr (W / 2) M).idxOf (gp (rw' b W v i))) (fun i _ => Nat.lt_of_lt_of_le (List.idxOf_lt_length_of_mem (hmem i)) hbd)
  have hg : gp (rw' b W v i) = gp (rw' b W v j) := by
    have e1 := List.getElem_idxOf (List.idxOf_lt_length_of_mem (hmem i))
    have e2 := List.getElem_idxOf (List.idxOf_lt_length_of_mem (hmem j))
    rw [← e1, ← e2]
    congr 1
  refine ⟨j, hj, bk_iff.2 ⟨i + 1, by omega, ?_⟩⟩
  show sN b W (it (sN b W) i v) = sN b W (it (sN b W) j v)
  have h3 := sN_cast hb hb' hW (it (sN b W) i v)
  have h4 := sN_cast hb hb' hW (it (sN b W) j v)
  have h5 : stv b (wd b W ((it (sN b W) i v : Nat) : Int)) = stv b (wd b W ((it (sN b W) j v : Nat) : Int)) := by
    unfold stv
    rw [wd_len, wd_len]
    exact congrArg (gv b W) hg
  omega


end Go.Proofs.Ytadjjmlneghklaa
