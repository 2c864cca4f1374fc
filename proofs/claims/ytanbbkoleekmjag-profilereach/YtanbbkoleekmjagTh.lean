/-
  The set of the times at which something holds that turns at some times alone: the plain mathematics, without any program.
-/
import Derived.Test.YtanbbkoleekmjagPk1
import Derived.Test.YtanbbkoleekmjagJoin
namespace Go.Proofs.Ytanbbkoleekmjag

/-- does one of the first i pieces have the time, and does it hold at its beginning? -/
def seg (S : List Int) (p : Int → Bool) (i : Nat) (t : Int) : Bool := (List.range i).any fun k => decide (S.getD k 0 ≤ t) && decide (t < S.getD (k + 1) 0) && p (S.getD k 0)
theorem seg_succ (S : List Int) (p : Int → Bool) (i : Nat) (t : Int) : seg S p (i + 1) t = (seg S p i t || (decide (S.getD i 0 ≤ t) && decide (t < S.getD (i + 1) 0) && p (S.getD i 0))) := by
  unfold seg
  rw [List.range_succ, List.any_append]
  simp

/-- what has been made of the first i pieces -/
structure Th (S : List Int) (p : Int → Bool) (i : Nat) (out : List (Int × Int)) : Prop where
  canon : Canon out
  pts : ∀ t, has out t = seg S p i t
  last : ∀ q, out.getLast? = some q → ∃ j, j ≤ i ∧ S[j]? = some q.2
  len : out.length ≤ i
  mem : ∀ x ∈ flat out, x ∈ S

theorem th_start (S : List Int) (p : Int → Bool) : Th S p 0 [] :=
  ⟨List.Pairwise.nil, fun _ => rfl, fun q h => by simp at h, Nat.le_refl _, fun x h => by simp [flat] at h⟩

theorem getD_get {S : List Int} {i : Nat} (h : i < S.length) : S.getD i 0 = S[i] := by simp [List.getD_eq_getElem?_getD, h]

theorem th_skip {S : List Int} {p : Int → Bool} {i : Nat} {out : List (Int × Int)} (hi : i + 1 < S.length) (T : Th S p i out) (hp : p S[i] = false) : Th S p (i + 1) out := by
  refine ⟨T.canon, fun t => ?_, fun q h => ?_, by have := T.len; omega, T.mem⟩
  · rw [seg_succ, getD_get (by omega), hp, T.pts]; simp
  · obtain ⟨j, hj, e⟩ := T.last q h
    exact ⟨j, by omega, e⟩

theorem th_put {S : List Int} {p : Int → Bool} {i : Nat} {out : List (Int × Int)} (hi : i + 1 < S.length) (hS : S.Pairwise (· < ·)) (T : Th S p i out) (hp : p S[i] = true) (hn : ∀ q, out.getLast? = some q → q.2 ≠ S[i]) : Th S p (i + 1) (out ++ [(S[i], S[i + 1])]) := by
  rw [List.pairwise_iff_getElem] at hS
  have h01 := hS i (i + 1) (by omega) hi (by omega)
  have e : flat [(S[i], S[i + 1])] = [S[i], S[i + 1]] := rfl
  refine ⟨?_, fun t => ?_, fun q h => ?_, ?_, fun x hx => ?_⟩
  · unfold Canon
    rw [flat_append, e, List.pairwise_append]
    refine ⟨T.canon, by simp [h01], fun a ha b hb => ?_⟩
    have hab : a < S[i] := by
      rcases List.eq_nil_or_concat out with h0 | ⟨o, q, h0⟩
      · subst h0; simp [flat] at ha
      · rw [List.concat_eq_append] at h0
        subst h0
        have h1 := canon_last_max T.canon a ha
        obtain ⟨j, hj, ej⟩ := T.last q (by simp)
        have h2 := hn q (by simp)
        obtain ⟨hjl, ej⟩ := List.getElem?_eq_some_iff.1 ej
        by_cases hji : j = i
        · subst hji; exact absurd ej.symm h2
        · have := hS j i hjl (by omega) (by omega)
          omega
    simp only [List.mem_cons, List.not_mem_nil, or_false] at hb
    rcases hb with rfl | rfl <;> omega
  · rw [seg_succ, has_append, T.pts, getD_get (by omega : i < S.length), getD_get hi, hp, has_cons, has_nil]; simp
  · simp at h
    subst h
    exact ⟨i + 1, Nat.le_refl _, List.getElem?_eq_getElem hi⟩
  · have := T.len; simp only [List.length_append, List.length_singleton]; omega
  · rw [flat_append, e, List.mem_append] at hx
    rcases hx with hx | hx
    · exact T.mem x hx
    · simp only [List.mem_cons, List.not_mem_nil, or_false] at hx
      rcases hx with rfl | rfl <;> exact List.getElem_mem _

theorem th_more {S : List Int} {p : Int → Bool} {i : Nat} {o : List (Int × Int)} {q : Int × Int} (hi : i + 1 < S.length) (hS : S.Pairwise (· < ·)) (T : Th S p i (o ++ [q])) (hp : p S[i] = true) (hn : q.2 = S[i]) : Th S p (i + 1) (o ++ [(q.1, S[i + 1])]) := by
  rw [List.pairwise_iff_getElem] at hS
  have h01 := hS i (i + 1) (by omega) hi (by omega)
  have e : ∀ q : Int × Int, flat [q] = [q.1, q.2] := fun _ => rfl
  have hc := T.canon
  unfold Canon at hc
  rw [flat_append, e, List.pairwise_append] at hc
  have hqq : q.1 < q.2 := by simpa using hc.2.1
  refine ⟨?_, fun t => ?_, fun r h => ?_, ?_, fun x hx => ?_⟩
  · unfold Canon
    rw [flat_append, e, List.pairwise_append]
    refine ⟨hc.1, by simp; omega, fun a ha b hb => ?_⟩
    have h1 := hc.2.2 a ha q.1 (by simp)
    simp only [List.mem_cons, List.not_mem_nil, or_false] at hb
    rcases hb with rfl | rfl
    · exact h1
    · omega
  · rw [seg_succ, has_append, ← T.pts, has_append, getD_get (by omega : i < S.length), getD_get hi, hp, Bool.or_assoc]
    congr 1
    rw [has_cons, has_cons, has_nil, Bool.or_false, Bool.or_false, Bool.and_true, Bool.eq_iff_iff]
    simp only [Bool.and_eq_true, decide_eq_true_eq, Bool.or_eq_true]
    omega
  · simp at h
    subst h
    exact ⟨i + 1, Nat.le_refl _, List.getElem?_eq_getElem hi⟩
  · have := T.len; simp only [List.length_append, List.length_singleton] at this ⊢; omega
  · have hm := T.mem
    rw [flat_append, e] at hm hx
    rw [List.mem_append] at hx
    rcases hx with hx | hx
    · exact hm x (by simp [hx])
    · simp only [List.mem_cons, List.not_mem_nil, or_false] at hx
      rcases hx with rfl | rfl
      · exact hm q.1 (by simp)
      · exact List.getElem_mem _

theorem cnt_index {S : List Int} (hS : S.Pairwise (· < ·)) (t : Int) (j : Nat) (hj : j < S.length) : S[j] ≤ t ↔ j < cnt S t := by
  induction S generalizing j with
  | nil => simp at hj
  | cons x S ih =>
    rw [List.pairwise_cons] at hS
    rw [cnt_cons]
    by_cases hx : x ≤ t
    · rw [if_pos hx]
      cases j with
      | zero => simp; omega
      | succ j =>
        have := ih hS.2 j (by simpa using hj)
        simp only [List.getElem_cons_succ]
        omega
    · rw [if_neg hx, cnt_none (fun y hy => by have := hS.1 y hy; omega)]
      have : x ≤ (x :: S)[j] := by
        cases j with
        | zero => simp
        | succ j =>
          simp only [List.getElem_cons_succ]
          have := hS.1 _ (List.getElem_mem (by simpa using hj : j < S.length)); omega
      omega

/-- it turns at the times of S alone, and doesn't hold outside of them -/
structure Turns (S : List Int) (p : Int → Bool) : Prop where
  same : ∀ s t, s ≤ t → (∀ x ∈ S, ¬ (s < x ∧ x ≤ t)) → p s = p t
  low : ∀ t, (∀ x ∈ S, t < x) → p t = false
  high : ∀ t, (∀ x ∈ S, x ≤ t) → p t = false

theorem seg_turns {S : List Int} {p : Int → Bool} (hS : S.Pairwise (· < ·)) (h : Turns S p) (t : Int) : seg S p (S.length - 1) t = p t := by
  rw [Bool.eq_iff_iff]
  constructor
  · intro hs
    unfold seg at hs
    rw [List.any_eq_true] at hs
    obtain ⟨k, hk, he⟩ := hs
    rw [List.mem_range] at hk
    rw [getD_get (by omega : k < S.length), getD_get (by omega : k + 1 < S.length)] at he
    simp only [Bool.and_eq_true, decide_eq_true_eq] at he
    rw [← h.same S[k] t he.1.1 ?_]
    · exact he.2
    · intro x hx hc
      obtain ⟨j, hj, rfl⟩ := List.getElem_of_mem hx
      rw [List.pairwise_iff_getElem] at hS
      by_cases hjk : j ≤ k
      · by_cases e : j = k
        · subst e; omega
        · have := hS j k hj (by omega) (by omega); omega
      · by_cases e : j = k + 1
        · subst e; omega
        · have := hS (k + 1) j (by omega) hj (by omega); omega
  · intro hp
    have hc := fun j hj => cnt_index hS t j hj
    have h0 : 0 < cnt S t := by
      rcases Nat.eq_zero_or_pos (cnt S t) with h0 | h0
      · exfalso
        have := h.low t (fun x hx => by
          obtain ⟨j, hj, rfl⟩ := List.getElem_of_mem hx
          have := hc j hj; omega)
        rw [hp] at this; cases this
      · exact h0
    have h1 : cnt S t < S.length := by
      rcases Nat.lt_or_ge (cnt S t) S.length with h1 | h1
      · exact h1
      · exfalso
        have := h.high t (fun x hx => by
          obtain ⟨j, hj, rfl⟩ := List.getElem_of_mem hx
          have := hc j hj; omega)
        rw [hp] at this; cases this
    unfold seg
    rw [List.any_eq_true]
    refine ⟨cnt S t - 1, by rw [List.mem_range]; omega, ?_⟩
    have a1 := (hc (cnt S t - 1) (by omega)).2 (by omega)
    have a2 : ¬ S[cnt S t - 1 + 1] ≤ t := fun hh => by have := (hc (cnt S t - 1 + 1) (by omega)).1 hh; omega
    rw [getD_get (by omega : cnt S t - 1 < S.length), getD_get (by omega : cnt S t - 1 + 1 < S.length)]
    simp only [Bool.and_eq_true, decide_eq_true_eq]
    refine ⟨⟨a1, by omega⟩, ?_⟩
    rw [h.same _ t a1 ?_]
    · exact hp
    · intro x hx hcx
      obtain ⟨j, hj, rfl⟩ := List.getElem_of_mem hx
      rw [List.pairwise_iff_getElem] at hS
      by_cases hjk : j ≤ cnt S t - 1
      · by_cases e : j = cnt S t - 1
        · subst e; omega
        · have := hS j (cnt S t - 1) hj (by omega) (by omega); omega
      · have := (hc j hj).1 hcx.2; omega

theorem has_same {l : List (Int × Int)} {s t : Int} (hst : s ≤ t) (h : ∀ x ∈ flat l, ¬ (s < x ∧ x ≤ t)) : has l s = has l t := by
  induction l with
  | nil => rfl
  | cons p l ih =>
    rw [flat_cons] at h
    rw [has_cons, has_cons, ih (fun x hx => h x (by simp [hx]))]
    have h1 := h p.1 (by simp)
    have h2 := h p.2 (by simp)
    congr 1
    rw [Bool.eq_iff_iff]
    simp only [Bool.and_eq_true, decide_eq_true_eq]
    omega
theorem has_low {l : List (Int × Int)} {t : Int} (h : ∀ x ∈ flat l, t < x) : has l t = false := by
  induction l with
  | nil => rfl
  | cons p l ih =>
    rw [flat_cons] at h
    have h1 := h p.1 (by simp)
    rw [has_cons, ih (fun x hx => h x (by simp [hx])), Bool.or_false]
    simp only [Bool.and_eq_false_iff, decide_eq_false_iff_not]
    omega
theorem has_high {l : List (Int × Int)} {t : Int} (h : ∀ x ∈ flat l, x ≤ t) : has l t = false := by
  induction l with
  | nil => rfl
  | cons p l ih =>
    rw [flat_cons] at h
    have h1 := h p.2 (by simp)
    rw [has_cons, ih (fun x hx => h x (by simp [hx])), Bool.or_false]
    simp only [Bool.and_eq_false_iff, decide_eq_false_iff_not]
    omega

theorem turns_two {want : Bool → Bool → Bool} (hw : want false false = false) {a b : List (Int × Int)} {S : List Int} (hm : ∀ x, x ∈ S ↔ x ∈ flat a ++ flat b) : Turns S (fun t => want (has a t) (has b t)) := by
  refine ⟨fun s t hst h => ?_, fun t h => ?_, fun t h => ?_⟩
  · have e1 : has a s = has a t := has_same hst fun x hx => h x ((hm x).2 (by simp [hx]))
    have e2 : has b s = has b t := has_same hst fun x hx => h x ((hm x).2 (by simp [hx]))
    simp only [e1, e2]
  · have e1 : has a t = false := has_low fun x hx => h x ((hm x).2 (by simp [hx]))
    have e2 : has b t = false := has_low fun x hx => h x ((hm x).2 (by simp [hx]))
    simp only [e1, e2, hw]
  · have e1 : has a t = false := has_high fun x hx => h x ((hm x).2 (by simp [hx]))
    have e2 : has b t = false := has_high fun x hx => h x ((hm x).2 (by simp [hx]))
    simp only [e1, e2, hw]
theorem turns_one {l : List (Int × Int)} {S : List Int} (hm : ∀ x, x ∈ S ↔ x ∈ flat l) : Turns S (has l) :=
  ⟨fun _ _ hst h => has_same hst fun x hx => h x ((hm x).2 hx), fun _ h => has_low fun x hx => h x ((hm x).2 hx), fun _ h => has_high fun x hx => h x ((hm x).2 hx)⟩

end Go.Proofs.Ytanbbkoleekmjag
