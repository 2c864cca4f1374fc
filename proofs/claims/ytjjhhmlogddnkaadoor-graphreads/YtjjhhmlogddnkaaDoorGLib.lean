/-
  What the library's Cut and Split are at a separator of one byte.
-/
import Derived.Test.YtjjhhmlogddnkaaDoorGText
namespace Go.Proofs.YtjjhhmlogddnkaaDoor
open Go.Lib

theorem ix_none {c : UInt8} : ∀ {l : List UInt8}, c ∉ l → index l [c] = -1
  | [], _ => by simp [index]
  | b :: l, h => by
    have hb : b ≠ c := fun e => h (by simp [e])
    have hp : ([c] : List UInt8).isPrefixOf (b :: l) = false := by simp [List.isPrefixOf, Ne.symm hb]
    rw [index, hp, ix_none fun k => h (List.mem_cons_of_mem _ k)]
    simp
theorem ix_at {c : UInt8} : ∀ {a : List UInt8} (l : List UInt8), c ∉ a → index (a ++ c :: l) [c] = (a.length : Int)
  | [], l, _ => by rw [List.nil_append, index]; simp [List.isPrefixOf]
  | b :: a, l, h => by
    have hb : b ≠ c := fun e => h (by simp [e])
    have hp : ([c] : List UInt8).isPrefixOf (b :: (a ++ c :: l)) = false := by simp [List.isPrefixOf, Ne.symm hb]
    have ih := ix_at l fun k => h (List.mem_cons_of_mem _ k)
    rw [List.cons_append, index, hp, ih]
    simp
theorem mem_split_first {c : UInt8} : ∀ {l : List UInt8}, c ∈ l → ∃ a r, l = a ++ c :: r ∧ c ∉ a
  | [], h => by simp at h
  | b :: l, h => by
    by_cases hb : b = c
    · subst hb; exact ⟨[], l, rfl, by simp⟩
    · rcases List.mem_cons.1 h with k | k
      · exact absurd k.symm hb
      · obtain ⟨a, r, e, hn⟩ := mem_split_first k
        exact ⟨b :: a, r, by rw [e]; rfl, fun q => by rcases List.mem_cons.1 q with q | q; exact hb q.symm; exact hn q⟩
theorem splitK_sp (c : UInt8) : ∀ (n : Nat) (l : List UInt8), l.length ≤ n → splitK [c] 0 (l.count c) l = sp c l := by
  intro n
  induction n with
  | zero =>
    intro l h
    have e : l = [] := List.eq_nil_of_length_eq_zero (by omega)
    subst e
    rfl
  | succ n ih =>
    intro l h
    by_cases hc : c ∈ l
    · obtain ⟨a, r, rfl, ha⟩ := mem_split_first hc
      have e : (a ++ c :: r).count c = r.count c + 1 := by rw [List.count_append, List.count_eq_zero_of_not_mem ha, List.count_cons_self]; omega
      have i := ix_at r ha
      rw [e, splitK, if_neg (by rw [i]; simp), i, sp_ahead r ha]
      have d : (a ++ c :: r).drop (((a.length : Int)).toNat + ([c] : List UInt8).length) = r := by simp [List.drop_append]
      have t : (a ++ c :: r).take (((a.length : Int)).toNat + 0) = a := by simp
      rw [d, t, ih r (by simp at h; omega)]
    · rw [List.count_eq_zero_of_not_mem hc, sp_none hc]; rfl
theorem split_sp (c : UInt8) (s : ByteArray) : (splitB ⟨#[c]⟩ 0 (countB s ⟨#[c]⟩) s).map (·.data.toList) = sp c s.data.toList := by
  rw [splitB_data]
  show splitK [c] 0 (count s.data.toList [c]) _ = _
  rw [count_one, splitK_sp c _ _ (Nat.le_refl _)]
theorem split_len (c : UInt8) (s : ByteArray) : countB s ⟨#[c]⟩ + 1 = (sp c s.data.toList).length := by
  rw [← split_sp, List.length_map, splitB_all _ (by simp [ByteArray.size]) 0 _ s rfl]
theorem cut_none {c : UInt8} {l : List UInt8} (h : c ∉ l) : cut l [c] = (l, [], false) := by
  unfold cut; rw [ix_none h, if_neg (by decide)]
theorem cut_at {c : UInt8} {a : List UInt8} (r : List UInt8) (h : c ∉ a) : cut (a ++ c :: r) [c] = (a, r, true) := by
  unfold cut
  rw [ix_at r h, if_pos (by omega)]
  simp [List.drop_append]
/-- Cut, by the pieces -/
theorem cut_sp (c : UInt8) (l : List UInt8) : (∃ a m r, sp c l = a :: m :: r ∧ cut l [c] = (a, jn c (m :: r), true) ∧ sp c (jn c (m :: r)) = m :: r) ∨ (sp c l = [l] ∧ cut l [c] = (l, [], false)) := by
  by_cases hc : c ∈ l
  · obtain ⟨a, r, rfl, ha⟩ := mem_split_first hc
    obtain ⟨m, t, e⟩ := sp_cons c r
    refine .inl ⟨a, m, t, by rw [sp_ahead r ha, e], ?_, ?_⟩
    · rw [← e, jn_sp, cut_at r ha]
    · rw [← e, jn_sp]
  · exact .inr ⟨sp_none hc, cut_none hc⟩

end Go.Proofs.YtjjhhmlogddnkaaDoor
