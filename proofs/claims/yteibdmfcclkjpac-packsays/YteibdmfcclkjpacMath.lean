/-
  Sets of times as lists of pairs: the plain mathematics, without any program.
-/
namespace Go.Proofs.Yteibdmfcclkjpac

/-- a number from -10^9 to 10^9 -/
def nearB (x : Int) : Prop := -1000000000 ≤ x ∧ x ≤ 1000000000

/-- the first k pairs are near -/
def Near (l : List (Int × Int)) (k : Nat) : Prop := ∀ i, i < k → nearB (l.getD i (0, 0)).1 ∧ nearB (l.getD i (0, 0)).2
def nearDec (l : List (Int × Int)) (k : Nat) : Decidable (Near l k) := by unfold Near nearB; infer_instance

/-- the first k pairs rise and don't touch -/
def Form (l : List (Int × Int)) (k : Nat) : Prop := ∀ i, i < k → (l.getD i (0, 0)).1 < (l.getD i (0, 0)).2 ∧ (0 < i → (l.getD (i - 1) (0, 0)).2 < (l.getD i (0, 0)).1)
def goodDec (l : List (Int × Int)) (k : Nat) : Decidable (Near l k ∧ Form l k) := by unfold Near Form nearB; infer_instance

/-- what checkBounds answers -/
def cbs (l : List (Int × Int)) : Int := if 200 < l.length then 2 else @ite Int (Near l l.length) (nearDec l l.length) 0 5
/-- what Check answers -/
def chk (l : List (Int × Int)) : Int := if 200 < l.length then 2 else @ite Int (Near l l.length ∧ Form l l.length) (goodDec l l.length) 0 5

theorem near_succ {l : List (Int × Int)} {k : Nat} (h : Near l k) (h1 : nearB (l.getD k (0, 0)).1) (h2 : nearB (l.getD k (0, 0)).2) : Near l (k + 1) := by
  intro i hi
  by_cases e : i = k
  · subst e; exact ⟨h1, h2⟩
  · exact h i (by omega)
theorem form_succ {l : List (Int × Int)} {k : Nat} (h : Form l k) (h1 : (l.getD k (0, 0)).1 < (l.getD k (0, 0)).2) (h2 : 0 < k → (l.getD (k - 1) (0, 0)).2 < (l.getD k (0, 0)).1) : Form l (k + 1) := by
  intro i hi
  by_cases e : i = k
  · subst e; exact ⟨h1, h2⟩
  · exact h i (by omega)

theorem cbs_large {l : List (Int × Int)} (h : 200 < l.length) : cbs l = 2 := by simp [cbs, h]
theorem cbs_ok {l : List (Int × Int)} (h : l.length ≤ 200) (hn : Near l l.length) : cbs l = 0 := by
  unfold cbs; rw [if_neg (by omega), if_pos hn]
theorem cbs_no {l : List (Int × Int)} {k : Nat} (h : l.length ≤ 200) (hk : k < l.length) (hn : ¬ (nearB (l.getD k (0, 0)).1 ∧ nearB (l.getD k (0, 0)).2)) : cbs l = 5 := by
  unfold cbs; rw [if_neg (by omega), if_neg (fun hh => hn (hh k hk))]
theorem cbs_cases (l : List (Int × Int)) : (cbs l = 2 ∧ 200 < l.length) ∨ (cbs l = 5 ∧ l.length ≤ 200 ∧ ¬ Near l l.length) ∨ (cbs l = 0 ∧ l.length ≤ 200 ∧ Near l l.length) := by
  unfold cbs
  by_cases h : 200 < l.length
  · exact .inl ⟨by rw [if_pos h], h⟩
  · rw [if_neg h]
    by_cases hn : Near l l.length
    · exact .inr (.inr ⟨by rw [if_pos hn], by omega, hn⟩)
    · exact .inr (.inl ⟨by rw [if_neg hn], by omega, hn⟩)
theorem chk_large {l : List (Int × Int)} (h : 200 < l.length) : chk l = 2 := by simp [chk, h]
theorem chk_ok {l : List (Int × Int)} (h : l.length ≤ 200) (hn : Near l l.length) (hf : Form l l.length) : chk l = 0 := by
  unfold chk; rw [if_neg (by omega), if_pos ⟨hn, hf⟩]
theorem chk_far {l : List (Int × Int)} (h : l.length ≤ 200) (hn : ¬ Near l l.length) : chk l = 5 := by
  unfold chk; rw [if_neg (by omega), if_neg (fun hh => hn hh.1)]
theorem chk_no {l : List (Int × Int)} {k : Nat} (h : l.length ≤ 200) (hk : k < l.length) (hn : ¬ ((l.getD k (0, 0)).1 < (l.getD k (0, 0)).2 ∧ (0 < k → (l.getD (k - 1) (0, 0)).2 < (l.getD k (0, 0)).1))) : chk l = 5 := by
  unfold chk; rw [if_neg (by omega), if_neg (fun hh => hn (hh.2 k hk))]
theorem chk_cases (l : List (Int × Int)) : chk l = 2 ∨ chk l = 5 ∨ (chk l = 0 ∧ l.length ≤ 200 ∧ Near l l.length ∧ Form l l.length) := by
  unfold chk
  by_cases h : 200 < l.length
  · exact .inl (by rw [if_pos h])
  · rw [if_neg h]
    by_cases hn : Near l l.length ∧ Form l l.length
    · exact .inr (.inr ⟨by rw [if_pos hn], by omega, hn⟩)
    · exact .inr (.inl (by rw [if_neg hn]))


/-- all ends of the pairs, in order -/
def flat (l : List (Int × Int)) : List Int := l.flatMap fun p => [p.1, p.2]
theorem flat_nil : flat [] = [] := rfl
theorem flat_cons (p : Int × Int) (l : List (Int × Int)) : flat (p :: l) = p.1 :: p.2 :: flat l := by simp [flat]
theorem flat_append (a b : List (Int × Int)) : flat (a ++ b) = flat a ++ flat b := by simp [flat]
theorem flat_length (l : List (Int × Int)) : (flat l).length = 2 * l.length := by
  induction l with
  | nil => rfl
  | cons p l ih => rw [flat_cons]; simp only [List.length_cons, ih]; omega
theorem take_succ_get {α : Type} (l : List α) (k : Nat) (hk : k < l.length) : l.take (k + 1) = l.take k ++ [l[k]] := by
  rw [List.take_add_one, List.getElem?_eq_getElem hk]; rfl
theorem flat_succ (l : List (Int × Int)) (k : Nat) (hk : k < l.length) : flat (l.take (k + 1)) = flat (l.take k) ++ [l[k].1, l[k].2] := by
  rw [take_succ_get l k hk, flat_append]; rfl
theorem flat_take_length (l : List (Int × Int)) (k : Nat) (hk : k ≤ l.length) : (flat (l.take k)).length = 2 * k := by
  rw [flat_length, List.length_take]; omega

theorem flat_getD (l : List (Int × Int)) (j : Nat) (h : j < l.length) : (flat l)[j * 2]? = some (l.getD j (0, 0)).1 ∧ (flat l)[j * 2 + 1]? = some (l.getD j (0, 0)).2 := by
  induction l generalizing j with
  | nil => simp at h
  | cons p l ih =>
    rw [flat_cons]
    cases j with
    | zero => exact ⟨rfl, rfl⟩
    | succ j =>
      have := ih j (by simpa using h)
      rw [show (j + 1) * 2 = j * 2 + 1 + 1 by omega]
      simpa using this

end Go.Proofs.Yteibdmfcclkjpac
