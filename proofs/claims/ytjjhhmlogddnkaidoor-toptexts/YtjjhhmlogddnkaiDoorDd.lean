/-
  Striking numbers that stand twice out of a rising row, in place: the plain mathematics, without any program.
-/
import Derived.Test.YtjjhhmlogddnkaiDoorPk1
namespace Go.Proofs.YtjjhhmlogddnkaiDoor

/-- what striking has made of the first i -/
structure Dd (Z : List Int) (i k : Nat) (X : List Int) : Prop where
  hi : i ≤ Z.length
  hk : k ≤ i
  len : X.length = Z.length
  rest : ∀ j, i ≤ j → X[j]? = Z[j]?
  inc : (X.take k).Pairwise (· < ·)
  mem : ∀ x, x ∈ X.take k ↔ x ∈ Z.take i
  last : 0 < i → 0 < k ∧ X[k - 1]? = Z[i - 1]?

theorem dd_start (Z : List Int) : Dd Z 0 0 Z :=
  ⟨Nat.zero_le _, Nat.le_refl _, rfl, fun _ _ => rfl, by simp, fun x => by simp, fun h => absurd h (Nat.lt_irrefl _)⟩

theorem mem_take_lt {Z : List Int} {i : Nat} {x : Int} (h : x ∈ Z.take i) : ∃ j, j < i ∧ Z[j]? = some x := by
  obtain ⟨j, hj, e⟩ := List.getElem_of_mem h
  rw [List.length_take] at hj
  rw [List.getElem_take] at e
  exact ⟨j, by omega, by rw [List.getElem?_eq_getElem (by omega), e]⟩

theorem dd_put {Z X : List Int} {i k : Nat} (hlt : i < Z.length) (S : Dd Z i k X) (hs : Z.Pairwise (· ≤ ·)) (hn : ∀ y, 0 < i → X[k - 1]? = some y → Z[i] ≠ y) : Dd Z (i + 1) (k + 1) (X.set k Z[i]) := by
  have hk := S.hk
  have hlen := S.len
  have hX : (X.set k Z[i]).take (k + 1) = X.take k ++ [Z[i]] := by
    rw [take_succ_get _ k (by rw [List.length_set]; omega), List.take_set_of_le (Nat.le_refl _)]
    simp
  have hZ := take_succ_get Z i hlt
  have hlow : ∀ x ∈ X.take k, x < Z[i] := by
    intro x hx
    obtain ⟨j, hj, e⟩ := mem_take_lt ((S.mem x).1 hx)
    obtain ⟨hk0, hl⟩ := S.last (by omega)
    obtain ⟨hjl, e⟩ := List.getElem?_eq_some_iff.1 e
    have hi1 : i - 1 < Z.length := by omega
    rw [List.getElem?_eq_getElem hi1] at hl
    have h1 := hn _ (by omega) hl
    rw [List.pairwise_iff_getElem] at hs
    have h2 := hs (i - 1) i hi1 hlt (by omega)
    have h3 : Z[j] ≤ Z[i - 1] := by
      by_cases e' : j = i - 1
      · subst e'; exact Int.le_refl _
      · exact hs j (i - 1) hjl hi1 (by omega)
    omega
  refine ⟨by omega, by omega, by rw [List.length_set]; exact hlen, fun j hj => ?_, ?_, fun x => ?_, fun _ => ⟨by omega, ?_⟩⟩
  · rw [List.getElem?_set_ne (by omega)]; exact S.rest j (by omega)
  · rw [hX, List.pairwise_append]
    exact ⟨S.inc, List.pairwise_singleton _ _, fun a ha b hb => by simp at hb; subst hb; exact hlow a ha⟩
  · rw [hX, hZ, List.mem_append, List.mem_append, S.mem x]
  · simp only [Nat.add_sub_cancel]
    rw [List.getElem?_set_self (by omega), List.getElem?_eq_getElem hlt]

theorem dd_same {Z X : List Int} {i k : Nat} {y : Int} (hlt : i < Z.length) (S : Dd Z i k X) (h0 : 0 < i) (hy : X[k - 1]? = some y) (he : Z[i] = y) : Dd Z (i + 1) k X := by
  obtain ⟨hk0, hl⟩ := S.last h0
  have hZ := take_succ_get Z i hlt
  refine ⟨by omega, by have := S.hk; omega, S.len, fun j hj => S.rest j (by omega), S.inc, fun x => ?_, fun _ => ⟨hk0, ?_⟩⟩
  · rw [hZ, List.mem_append, S.mem x]
    constructor
    · intro h; exact .inl h
    · rintro (h | h)
      · exact h
      · simp only [List.mem_singleton] at h
        rw [← S.mem x, h, he]
        have hk1 := (List.getElem?_eq_some_iff.1 hy).1
        have : X[k - 1]? = (X.take k)[k - 1]? := by rw [List.getElem?_take_of_lt (by omega)]
        rw [this] at hy
        exact List.mem_of_getElem? hy
  · rw [hy, Nat.add_sub_cancel, List.getElem?_eq_getElem hlt, he]

/-- numbers in order, each once -/
structure Ordered (A S : List Int) : Prop where
  inc : S.Pairwise (· < ·)
  mem : ∀ x, x ∈ S ↔ x ∈ A
  len : S.length ≤ A.length

theorem ordered_of_dd {A Z X : List Int} {k : Nat} (hp : Z.Perm A) (S : Dd Z Z.length k X) : Ordered A (X.take k) := by
  refine ⟨S.inc, fun x => ?_, ?_⟩
  · rw [S.mem x, List.take_length]; exact hp.mem_iff
  · have h1 := S.hk
    have h2 := hp.length_eq
    rw [List.length_take]; omega

end Go.Proofs.YtjjhhmlogddnkaiDoor
