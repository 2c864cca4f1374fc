/-
  Striking equal neighbours out of a rising row: all its numbers, each once.
-/
import Derived.Test.YtanbbkoleekmjagPk1
import Derived.Lib.SlicesCompact
namespace Go.Proofs.Ytanbbkoleekmjag

theorem toArray_get {Z : List Int} {m : Nat} (hm : m < Z.length) : Z.toArray[m]! = Z[m] := by simp [hm]

theorem compact_inv {Z : List Int} (hZ : Z.Pairwise (· ≤ ·)) (m : Nat) (hm : m ≤ Z.length) :
    (Lib.compactUpTo Z.toArray m).Pairwise (· < ·) ∧ (∀ x, x ∈ Lib.compactUpTo Z.toArray m ↔ x ∈ Z.take m) ∧ (Lib.compactUpTo Z.toArray m).length ≤ m := by
  induction m with
  | zero => exact ⟨List.Pairwise.nil, fun x => by simp [Lib.compactUpTo], Nat.le_refl _⟩
  | succ m ih =>
    obtain ⟨h1, h2, h3⟩ := ih (by omega)
    have hlt : m < Z.length := by omega
    rw [Lib.compactUpTo_succ, toArray_get hlt]
    have hZ' := hZ
    rw [List.pairwise_iff_getElem] at hZ'
    by_cases hk : Lib.keeps Z.toArray m = true
    · rw [if_pos hk]
      refine ⟨?_, fun x => ?_, by simp only [List.length_append, List.length_singleton]; omega⟩
      · rw [List.pairwise_append]
        refine ⟨h1, List.pairwise_singleton _ _, fun a ha b hb => ?_⟩
        simp only [List.mem_singleton] at hb
        subst hb
        obtain ⟨j, hj, e⟩ := mem_take_lt ((h2 a).1 ha)
        obtain ⟨hjl, e⟩ := List.getElem?_eq_some_iff.1 e
        subst e
        have hne : Z[m] ≠ Z[m - 1] := by
          unfold Lib.keeps at hk
          simp only [decide_eq_true_eq] at hk
          rcases hk with hk | hk
          · omega
          · rwa [toArray_get hlt, toArray_get (by omega : m - 1 < Z.length)] at hk
        have h4 := hZ' (m - 1) m (by omega) hlt (by omega)
        have h5 : Z[j] ≤ Z[m - 1] := by
          by_cases e : j = m - 1
          · subst e; exact Int.le_refl _
          · exact hZ' j (m - 1) hjl (by omega) (by omega)
        omega
      · rw [take_succ_get Z m hlt, List.mem_append, List.mem_append, h2 x]
    · rw [if_neg hk, List.append_nil]
      refine ⟨h1, fun x => ?_, by omega⟩
      have h0 : 0 < m := by
        rcases Nat.eq_zero_or_pos m with e | e
        · subst e; exact absurd (Lib.keeps_lt_one _ 0 (by omega)) hk
        · exact e
      have he : Z[m] = Z[m - 1] := by
        rcases Decidable.em (Z[m] = Z[m - 1]) with e | e
        · exact e
        · exact absurd (Lib.keeps_pos (by rw [toArray_get hlt, toArray_get (by omega : m - 1 < Z.length)]; exact e)) hk
      rw [take_succ_get Z m hlt, List.mem_append, h2 x]
      constructor
      · exact .inl
      · rintro (h | h)
        · exact h
        · simp only [List.mem_singleton] at h
          rw [h, he]
          have : (Z.take m)[m - 1]? = some Z[m - 1] := by rw [List.getElem?_take_of_lt (by omega), List.getElem?_eq_getElem (by omega)]
          exact List.mem_of_getElem? this

theorem compact_len (Z : List Int) : (Lib.compact Z).length ≤ Z.length := by
  unfold Lib.compact Lib.compactUpTo
  rw [List.length_map]
  exact Nat.le_trans (List.length_filter_le _ _) (by simp)

theorem compact_ordered {A Z : List Int} (hp : Z.Perm A) (hZ : Z.Pairwise (· ≤ ·)) : Ordered A (Lib.compact Z) := by
  obtain ⟨h1, h2, h3⟩ := compact_inv hZ Z.length (Nat.le_refl _)
  exact ⟨h1, fun x => by rw [show Lib.compact Z = Lib.compactUpTo Z.toArray Z.length from rfl, h2 x, List.take_length]; exact hp.mem_iff, by have := hp.length_eq; unfold Lib.compact; omega⟩

end Go.Proofs.Ytanbbkoleekmjag
