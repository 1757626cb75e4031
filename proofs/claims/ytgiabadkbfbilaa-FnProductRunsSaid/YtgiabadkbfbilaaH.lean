/-
  Sorting: the model's insertion, the library's sort by its contract.
-/
import Derived.Test.YtgiabadkbfbilaaS
import Derived.Test.YtgiabadkbfbilaaI
import Derived.Sort.OwnSortedInts
namespace Go.Proofs.Ytgiabadkbfbilaa
open Go.RowKit
set_option linter.unusedVariables false
set_option linter.unusedSimpArgs false

/-- The list in order. -/
def srt (xs : List Int) : List Int := xs.mergeSort fun x y => decide (x ≤ y)

theorem srt_len (xs : List Int) : (srt xs).length = xs.length := by simp [srt]
theorem srt_mem {xs : List Int} {x : Int} : x ∈ srt xs ↔ x ∈ xs := by simp [srt]

theorem srt_unique {xs ys : List Int} (hp : ys.Perm xs) (hs : ys.Pairwise (· ≤ ·)) : ys = srt xs := by
  have h1 : (srt xs).Perm xs := List.mergeSort_perm xs _
  have h2 : (srt xs).Pairwise (fun a b => decide (a ≤ b) = true) := List.pairwise_mergeSort (fun a b c h1 h2 => by simp at h1 h2 ⊢; omega) (fun a b => by simp; omega) xs
  refine List.Perm.eq_of_pairwise (le := fun a b : Int => a ≤ b) (fun a b _ _ h1 h2 => by omega) hs (h2.imp (fun h => by simpa using h)) (hp.trans h1.symm)

theorem ins_perm (out : List Int) (x : Int) (k : Nat) : (out.take k ++ [x] ++ out.drop k).Perm (x :: out) := by
  have h1 : (out.take k ++ [x] ++ out.drop k) = out.take k ++ x :: out.drop k := by simp
  rw [h1]
  refine List.perm_middle.trans ?_
  rw [List.take_append_drop]

theorem ins_sorted (out : List Int) (x : Int) (k : Nat) (hk : k ≤ out.length) (hs : out.Pairwise (· ≤ ·)) (h1 : ∀ j (hj : j < out.length), j < k → out[j] ≤ x) (h2 : ∀ (h : k < out.length), x ≤ out[k]) :
    (out.take k ++ [x] ++ out.drop k).Pairwise (· ≤ ·) := by
  have hs' : (out.take k ++ out.drop k).Pairwise (· ≤ ·) := by rw [List.take_append_drop]; exact hs
  rw [List.pairwise_append] at hs'
  obtain ⟨ha, hb, hc⟩ := hs'
  have hx : ∀ a ∈ out.take k, a ≤ x := by
    intro a ha
    obtain ⟨j, hj, rfl⟩ := List.getElem_of_mem ha
    have hj' : j < k ∧ j < out.length := by simp at hj; omega
    rw [List.getElem_take]
    exact h1 j hj'.2 hj'.1
  have hy : ∀ a ∈ out.drop k, x ≤ a := by
    intro a ha
    have hlt : k < out.length := by
      have := List.length_pos_of_mem ha
      simp at this
      omega
    rw [drop_cons out k hlt] at ha hb
    rw [List.pairwise_cons] at hb
    have h3 := h2 hlt
    rcases List.mem_cons.1 ha with rfl | ha
    · exact h3
    · have := hb.1 a ha
      omega
  rw [List.append_assoc, List.pairwise_append]
  refine ⟨ha, ?_, ?_⟩
  · rw [List.singleton_append, List.pairwise_cons]
    exact ⟨hy, hb⟩
  · intro a ha b hb'
    rw [List.singleton_append, List.mem_cons] at hb'
    rcases hb' with rfl | hb'
    · exact hx a ha
    · exact hc a ha b hb'

theorem sort_any (g n cap : Nat) (xs : List Int) (B : Nat) (w : World) (h : Rd w B (.slice (some ⟨g, 0, none⟩) n cap) xs) (hl : xs.length ≤ 2000000) :
    Calls Try.prog 132 #[.slice (some ⟨g, 0, none⟩) n cap] w fun e w' => e = .returned (.tuple #[]) ∧ Rd w' B (.slice (some ⟨g, 0, none⟩) n cap) (srt xs) ∧ w.grownBy w' (some g) := by
  obtain ⟨rfl, _⟩ := h.at
  rcases h.2 with ⟨h1, _⟩ | ⟨g', cap', cur, hv, hg, hh, hn, hm, hc, ht⟩
  · simp at h1
  · simp only [Value.slice.injEq, Option.some.injEq, Addr.mk.injEq, and_true, true_and] at hv
    obtain ⟨rfl, rfl⟩ := hv
    refine (Try.slices_Sort_int g 0 cap xs w (holds_of_blockI hh (by simpa using ht)) (Array.getElem?_eq_some_iff.1 hh).1 (by omega)).mono ?_
    rintro e w' ⟨rfl, nn, os, rfl⟩
    refine ⟨rfl, ?_, grownBy_sortedI _⟩
    have := ownsRow_sortedI (n := nn) (os := os) (ts := srt xs) (srt_len xs) hg hh hn hm hc
    unfold Rd
    rw [srt_len]
    exact this

end Go.Proofs.Ytgiabadkbfbilaa
