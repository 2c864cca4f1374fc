/-
  Joining intervals that rise: the plain mathematics, without any program.
-/
import Derived.Test.YtanbbkoleekmjagPk1
namespace Go.Proofs.Ytanbbkoleekmjag

theorem canon_last_max {o : List (Int × Int)} {p : Int × Int} (h : Canon (o ++ [p])) : ∀ x ∈ flat (o ++ [p]), x ≤ p.2 := by
  unfold Canon at h
  rw [flat_append] at h ⊢
  rw [List.pairwise_append] at h
  intro x hx
  rw [List.mem_append] at hx
  have e : flat [p] = [p.1, p.2] := rfl
  rw [e] at h hx
  rcases hx with hx | hx
  · have := h.2.2 x hx p.2 (by simp); omega
  · simp only [List.mem_cons, List.not_mem_nil, or_false] at hx
    have := h.2.1
    simp at this
    rcases hx with rfl | rfl <;> omega

/-- what joining has made of the first k -/
structure Jn (r : List (Int × Int)) (k : Nat) (out : List (Int × Int)) : Prop where
  canon : Canon out
  pts : ∀ t, has out t = has (r.take k) t
  last : ∀ p, out.getLast? = some p → ∀ j (h : j < r.length), k ≤ j → p.1 ≤ r[j].1
  len : out.length ≤ k
  near : ∀ x ∈ flat out, nearB x

theorem jn_start (r : List (Int × Int)) : Jn r 0 [] :=
  ⟨List.Pairwise.nil, fun _ => rfl, fun p h => by simp at h, Nat.le_refl _, fun x h => by simp [flat] at h⟩

theorem jn_put {r : List (Int × Int)} {k : Nat} {out : List (Int × Int)} (hk : k < r.length) (S : Jn r k out) (hs : r.Pairwise (fun x y => x.1 ≤ y.1)) (hf : r[k].1 < r[k].2) (hn : nearB r[k].1 ∧ nearB r[k].2)
    (hg : ∀ p, out.getLast? = some p → p.2 < r[k].1) : Jn r (k + 1) (out ++ [r[k]]) := by
  refine ⟨?_, fun t => ?_, fun p h j hj hkj => ?_, ?_, fun x hx => ?_⟩
  · unfold Canon
    have e : flat [r[k]] = [r[k].1, r[k].2] := rfl
    rw [flat_append, e, List.pairwise_append]
    refine ⟨S.canon, by simp [hf], fun a ha b hb => ?_⟩
    have hab : a < r[k].1 := by
      rcases List.eq_nil_or_concat out with h0 | ⟨o, p, h0⟩
      · subst h0; simp [flat] at ha
      · rw [List.concat_eq_append] at h0
        subst h0
        have h1 := canon_last_max S.canon a ha
        have h2 := hg p (by simp)
        omega
    simp only [List.mem_cons, List.not_mem_nil, or_false] at hb
    rcases hb with rfl | rfl <;> omega
  · rw [take_succ_get r k hk, has_append, has_append, S.pts t]
  · simp at h
    subst h
    rw [List.pairwise_iff_getElem] at hs
    exact hs k j hk hj (by omega)
  · have := S.len; simp only [List.length_append, List.length_singleton]; omega
  · rw [flat_append, List.mem_append] at hx
    rcases hx with hx | hx
    · exact S.near x hx
    · have e : flat [r[k]] = [r[k].1, r[k].2] := rfl
      rw [e] at hx
      simp only [List.mem_cons, List.not_mem_nil, or_false] at hx
      rcases hx with rfl | rfl
      · exact hn.1
      · exact hn.2

theorem jn_more {r : List (Int × Int)} {k : Nat} {o : List (Int × Int)} {p : Int × Int} (hk : k < r.length) (S : Jn r k (o ++ [p])) (hf : r[k].1 < r[k].2) (hn : nearB r[k].1 ∧ nearB r[k].2)
    (hg : r[k].1 ≤ p.2) : Jn r (k + 1) (o ++ [(p.1, max p.2 r[k].2)]) := by
  have hc := S.canon
  have hp1 := S.last p (by simp) k hk (Nat.le_refl _)
  have e : ∀ q : Int × Int, flat [q] = [q.1, q.2] := fun _ => rfl
  unfold Canon at hc
  rw [flat_append, e, List.pairwise_append] at hc
  have hpp : p.1 < p.2 := by simpa using hc.2.1
  refine ⟨?_, ?_, ?_, ?_, ?_⟩
  · unfold Canon
    rw [flat_append, e, List.pairwise_append]
    refine ⟨hc.1, by simp; omega, fun a ha b hb => ?_⟩
    have h1 := hc.2.2 a ha p.1 (by simp)
    simp only [List.mem_cons, List.not_mem_nil, or_false] at hb
    rcases hb with rfl | rfl
    · exact h1
    · omega
  · intro t
    rw [take_succ_get r k hk, has_append, has_append, ← S.pts t, has_append, Bool.or_assoc]
    congr 1
    rw [has_cons, has_cons, has_cons, has_nil, Bool.or_false, Bool.or_false, Bool.or_false, Bool.eq_iff_iff]
    simp only [Bool.and_eq_true, decide_eq_true_eq, Bool.or_eq_true]
    omega
  · intro q hq j hj hkj
    simp at hq
    subst hq
    exact S.last p (by simp) j hj (by omega)
  · have := S.len
    simp only [List.length_append, List.length_singleton] at this ⊢
    omega
  · intro x hx
    rw [flat_append, e, List.mem_append] at hx
    have hnear := S.near
    rw [flat_append, e] at hnear
    rcases hx with hx | hx
    · exact hnear x (by simp [hx])
    · simp only [List.mem_cons, List.not_mem_nil, or_false] at hx
      rcases hx with rfl | rfl
      · exact hnear p.1 (by simp)
      · have h1 := hnear p.2 (by simp)
        have h2 := hn.2
        unfold nearB at *
        omega

/-- the intervals that have times -/
def filt (l : List (Int × Int)) : List (Int × Int) := l.filter fun p => decide (p.1 < p.2)
theorem filt_yes {l : List (Int × Int)} {k : Nat} (hk : k < l.length) (h : l[k].1 < l[k].2) : filt (l.take (k + 1)) = filt (l.take k) ++ [l[k]] := by
  unfold filt
  rw [take_succ_get l k hk, List.filter_append]
  simp [h]
theorem filt_no {l : List (Int × Int)} {k : Nat} (hk : k < l.length) (h : ¬ l[k].1 < l[k].2) : filt (l.take (k + 1)) = filt (l.take k) := by
  unfold filt
  rw [take_succ_get l k hk, List.filter_append]
  simp [h]
theorem filt_length (l : List (Int × Int)) : (filt l).length ≤ l.length := List.length_filter_le _ _
theorem has_filt (l : List (Int × Int)) (t : Int) : has (filt l) t = has l t := by
  induction l with
  | nil => rfl
  | cons p l ih =>
    unfold filt at ih ⊢
    rw [List.filter_cons]
    by_cases h : p.1 < p.2
    · simp only [h, decide_true, if_true]
      rw [has_cons, has_cons, ih]
    · simp only [h, decide_false]
      rw [has_cons, Bool.eq_iff_iff]
      rw [show (if false = true then p :: l.filter (fun p => decide (p.1 < p.2)) else l.filter (fun p => decide (p.1 < p.2))) = l.filter (fun p => decide (p.1 < p.2)) by simp, ih]
      simp only [Bool.or_eq_true, Bool.and_eq_true, decide_eq_true_eq]
      constructor
      · intro h; exact .inr h
      · rintro (h' | h')
        · omega
        · exact h'
theorem has_perm {a b : List (Int × Int)} (h : a.Perm b) (t : Int) : has a t = has b t := by
  unfold has
  rw [Bool.eq_iff_iff, List.any_eq_true, List.any_eq_true]
  constructor
  · rintro ⟨x, hx, hp⟩; exact ⟨x, h.mem_iff.1 hx, hp⟩
  · rintro ⟨x, hx, hp⟩; exact ⟨x, h.mem_iff.2 hx, hp⟩

/-- what Norm comes to -/
structure NormIs (l r : List (Int × Int)) : Prop where
  canon : Canon r
  pts : ∀ t, has r t = has l t
  len : r.length ≤ l.length
  near : ∀ x ∈ flat r, nearB x

theorem near_mem {l : List (Int × Int)} (h : Near l l.length) : ∀ p ∈ l, nearB p.1 ∧ nearB p.2 := by
  intro p hp
  obtain ⟨i, hi, rfl⟩ := List.getElem_of_mem hp
  have := h i hi
  rwa [List.getD_eq_getElem?_getD, List.getElem?_eq_getElem hi] at this

theorem normIs_of_jn {l r out : List (Int × Int)} (hp : r.Perm (filt l)) (S : Jn r r.length out) : NormIs l out := by
  refine ⟨S.canon, fun t => ?_, ?_, S.near⟩
  · rw [S.pts, List.take_length, has_perm hp, has_filt]
  · have h1 := S.len
    have h2 := hp.length_eq
    have h3 := filt_length l
    omega

end Go.Proofs.Ytanbbkoleekmjag
