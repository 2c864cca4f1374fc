/-
  Several texts in one: Math, Sets, Base, GMath, Chk, Has, GBase, GChk, GEdge, RGraph, GCheck, SnMath, Dd, MMath, PBase, SpMath, PlMath, SBase, Snap, RSnap, JnMath, RJn, SuMath, Held.
-/
import Derived.Test.YtanbbkoleekmjagRows
import Derived.WalkKit
import Derived.WalkSpells
import Derived.WalkLawsBesides
import Derived.Deep.QuietTactic
import Derived.BigQuiet
import Derived.Deep.RegionWith
import Derived.Deep.RegionHeld3
import Derived.Deep.AppendLies
import Derived.OwnWalk

namespace Go.Proofs.Ytanbbkoleekmjag

/-- a number from -10^9 to 10^9 -/
def nearB (x : Int) : Prop := -1000000000 ≤ x ∧ x ≤ 1000000000

/-- the first k pairs are near -/
def Near (l : List (Int × Int)) (k : Nat) : Prop := ∀ i, i < k → nearB (l.getD i (0, 0)).1 ∧ nearB (l.getD i (0, 0)).2
def nearDec (l : List (Int × Int)) (k : Nat) : Decidable (Near l k) := by unfold Near nearB; infer_instance

/-- the first k pairs rise and don't touch -/
def Form (l : List (Int × Int)) (k : Nat) : Prop := ∀ i, i < k → (l.getD i (0, 0)).1 < (l.getD i (0, 0)).2 ∧ (0 < i → (l.getD (i - 1) (0, 0)).2 < (l.getD i (0, 0)).1)
def goodDec (l : List (Int × Int)) (k : Nat) : Decidable (Near l k ∧ Form l k) := by unfold Near Form nearB; infer_instance

/-- what checkBounds answers -/
def cbs (l : List (Int × Int)) : Int := if 200 < l.length then 2 else @ite Int (Near l l.length) (nearDec l l.length) 0 5
/-- what Check answers -/
def chk (l : List (Int × Int)) : Int := if 200 < l.length then 2 else @ite Int (Near l l.length ∧ Form l l.length) (goodDec l l.length) 0 5

theorem near_succ {l : List (Int × Int)} {k : Nat} (h : Near l k) (h1 : nearB (l.getD k (0, 0)).1) (h2 : nearB (l.getD k (0, 0)).2) : Near l (k + 1) := by
  intro i hi
  by_cases e : i = k
  · subst e; exact ⟨h1, h2⟩
  · exact h i (by omega)
theorem form_succ {l : List (Int × Int)} {k : Nat} (h : Form l k) (h1 : (l.getD k (0, 0)).1 < (l.getD k (0, 0)).2) (h2 : 0 < k → (l.getD (k - 1) (0, 0)).2 < (l.getD k (0, 0)).1) : Form l (k + 1) := by
  intro i hi
  by_cases e : i = k
  · subst e; exact ⟨h1, h2⟩
  · exact h i (by omega)

theorem cbs_large {l : List (Int × Int)} (h : 200 < l.length) : cbs l = 2 := by simp [cbs, h]
theorem cbs_ok {l : List (Int × Int)} (h : l.length ≤ 200) (hn : Near l l.length) : cbs l = 0 := by
  unfold cbs; rw [if_neg (by omega), if_pos hn]
theorem cbs_no {l : List (Int × Int)} {k : Nat} (h : l.length ≤ 200) (hk : k < l.length) (hn : ¬ (nearB (l.getD k (0, 0)).1 ∧ nearB (l.getD k (0, 0)).2)) : cbs l = 5 := by
  unfold cbs; rw [if_neg (by omega), if_neg (fun hh => hn (hh k hk))]
theorem cbs_cases (l : List (Int × Int)) : (cbs l = 2 ∧ 200 < l.length) ∨ (cbs l = 5 ∧ l.length ≤ 200 ∧ ¬ Near l l.length) ∨ (cbs l = 0 ∧ l.length ≤ 200 ∧ Near l l.length) := by
  unfold cbs
  by_cases h : 200 < l.length
  · exact .inl ⟨by rw [if_pos h], h⟩
  · rw [if_neg h]
    by_cases hn : Near l l.length
    · exact .inr (.inr ⟨by rw [if_pos hn], by omega, hn⟩)
    · exact .inr (.inl ⟨by rw [if_neg hn], by omega, hn⟩)
theorem chk_large {l : List (Int × Int)} (h : 200 < l.length) : chk l = 2 := by simp [chk, h]
theorem chk_ok {l : List (Int × Int)} (h : l.length ≤ 200) (hn : Near l l.length) (hf : Form l l.length) : chk l = 0 := by
  unfold chk; rw [if_neg (by omega), if_pos ⟨hn, hf⟩]
theorem chk_far {l : List (Int × Int)} (h : l.length ≤ 200) (hn : ¬ Near l l.length) : chk l = 5 := by
  unfold chk; rw [if_neg (by omega), if_neg (fun hh => hn hh.1)]
theorem chk_no {l : List (Int × Int)} {k : Nat} (h : l.length ≤ 200) (hk : k < l.length) (hn : ¬ ((l.getD k (0, 0)).1 < (l.getD k (0, 0)).2 ∧ (0 < k → (l.getD (k - 1) (0, 0)).2 < (l.getD k (0, 0)).1))) : chk l = 5 := by
  unfold chk; rw [if_neg (by omega), if_neg (fun hh => hn (hh.2 k hk))]
theorem chk_cases (l : List (Int × Int)) : chk l = 2 ∨ chk l = 5 ∨ (chk l = 0 ∧ l.length ≤ 200 ∧ Near l l.length ∧ Form l l.length) := by
  unfold chk
  by_cases h : 200 < l.length
  · exact .inl (by rw [if_pos h])
  · rw [if_neg h]
    by_cases hn : Near l l.length ∧ Form l l.length
    · exact .inr (.inr ⟨by rw [if_pos hn], by omega, hn⟩)
    · exact .inr (.inl (by rw [if_neg hn]))


/-- all ends of the pairs, in order -/
def flat (l : List (Int × Int)) : List Int := l.flatMap fun p => [p.1, p.2]
theorem flat_nil : flat [] = [] := rfl
theorem flat_cons (p : Int × Int) (l : List (Int × Int)) : flat (p :: l) = p.1 :: p.2 :: flat l := by simp [flat]
theorem flat_append (a b : List (Int × Int)) : flat (a ++ b) = flat a ++ flat b := by simp [flat]
theorem flat_length (l : List (Int × Int)) : (flat l).length = 2 * l.length := by
  induction l with
  | nil => rfl
  | cons p l ih => rw [flat_cons]; simp only [List.length_cons, ih]; omega
theorem take_succ_get {α : Type} (l : List α) (k : Nat) (hk : k < l.length) : l.take (k + 1) = l.take k ++ [l[k]] := by
  rw [List.take_add_one, List.getElem?_eq_getElem hk]; rfl
theorem flat_succ (l : List (Int × Int)) (k : Nat) (hk : k < l.length) : flat (l.take (k + 1)) = flat (l.take k) ++ [l[k].1, l[k].2] := by
  rw [take_succ_get l k hk, flat_append]; rfl
theorem flat_take_length (l : List (Int × Int)) (k : Nat) (hk : k ≤ l.length) : (flat (l.take k)).length = 2 * k := by
  rw [flat_length, List.length_take]; omega

theorem flat_getD (l : List (Int × Int)) (j : Nat) (h : j < l.length) : (flat l)[j * 2]? = some (l.getD j (0, 0)).1 ∧ (flat l)[j * 2 + 1]? = some (l.getD j (0, 0)).2 := by
  induction l generalizing j with
  | nil => simp at h
  | cons p l ih =>
    rw [flat_cons]
    cases j with
    | zero => exact ⟨rfl, rfl⟩
    | succ j =>
      have := ih j (by simpa using h)
      rw [show (j + 1) * 2 = j * 2 + 1 + 1 by omega]
      simpa using this

end Go.Proofs.Ytanbbkoleekmjag

namespace Go.Proofs.Ytanbbkoleekmjag

/-- is a number odd? -/
def odd (k : Nat) : Bool := ((k : Int) % 2 == 1)
theorem odd_succ (k : Nat) : odd (k + 1) = !odd k := by
  unfold odd
  rw [Bool.eq_iff_iff]
  simp
  omega
theorem odd_zero : odd 0 = false := rfl
theorem odd_cast_succ (k : Nat) : (((k : Int) + 1) % 2 == 1) = odd (k + 1) := by
  unfold odd
  rw [Bool.eq_iff_iff]
  simp
theorem odd_two (k : Nat) : odd (2 * k) = false := by
  unfold odd
  simp

/-- how many are at or below t? -/
def cnt (l : List Int) (t : Int) : Nat := l.countP fun x => decide (x ≤ t)
theorem cnt_nil (t : Int) : cnt [] t = 0 := rfl
theorem cnt_cons (x : Int) (l : List Int) (t : Int) : cnt (x :: l) t = cnt l t + if x ≤ t then 1 else 0 := by
  unfold cnt
  rw [List.countP_cons]
  simp
theorem cnt_append (a b : List Int) (t : Int) : cnt (a ++ b) t = cnt a t + cnt b t := by
  unfold cnt; rw [List.countP_append]
theorem cnt_none {l : List Int} {t : Int} (h : ∀ x ∈ l, t < x) : cnt l t = 0 := by
  unfold cnt
  rw [List.countP_eq_zero]
  intro x hx
  have := h x hx
  simp; omega
theorem cnt_all {l : List Int} {t : Int} (h : ∀ x ∈ l, x ≤ t) : cnt l t = l.length := by
  unfold cnt
  rw [List.countP_eq_length]
  intro x hx
  simpa using h x hx

/-- what sweeping has made of the first i and j ends -/
structure Swp (want : Bool → Bool → Bool) (A B : List Int) (i j : Nat) (r : List Int) : Prop where
  hi : i ≤ A.length
  hj : j ≤ B.length
  sep : ∀ x, (x ∈ r ∨ x ∈ A.take i ∨ x ∈ B.take j) → ∀ y, (y ∈ A.drop i ∨ y ∈ B.drop j) → x < y
  inc : r.Pairwise (· < ·)
  par : odd r.length = want (odd i) (odd j)
  pts : ∀ t, odd (cnt r t) = want (odd (cnt (A.take i) t)) (odd (cnt (B.take j) t))
  len : r.length ≤ i + j
  near : ∀ x ∈ r, nearB x

theorem swp_start {want : Bool → Bool → Bool} (hw : want false false = false) (A B : List Int) : Swp want A B 0 0 [] :=
  ⟨Nat.zero_le _, Nat.zero_le _, fun x h => by simp at h, List.Pairwise.nil, by simp [odd_zero, hw], fun t => by simp [cnt_nil, odd_zero, hw], Nat.zero_le _, fun x h => by simp at h⟩

/-- one list's part of a step -/
def Stp (A : List Int) (i i' : Nat) (τ : Int) : Prop := (i' = i + 1 ∧ A[i]? = some τ) ∨ (i' = i ∧ ∀ y ∈ A.drop i, τ < y)

theorem stp_le {A : List Int} {i i' : Nat} {τ : Int} (h : Stp A i i' τ) (hi : i ≤ A.length) : i' ≤ A.length := by
  rcases h with ⟨rfl, h⟩ | ⟨rfl, _⟩
  · have := (List.getElem?_eq_some_iff.1 h).1; omega
  · exact hi
theorem stp_mem {A : List Int} {i i' : Nat} {τ x : Int} (h : Stp A i i' τ) (hx : x ∈ A.take i') : x ∈ A.take i ∨ x = τ := by
  rcases h with ⟨rfl, h⟩ | ⟨rfl, _⟩
  · obtain ⟨hl, he⟩ := List.getElem?_eq_some_iff.1 h
    rw [take_succ_get A i hl] at hx
    simp only [List.mem_append, List.mem_singleton] at hx
    rcases hx with hx | hx
    · exact .inl hx
    · exact .inr (hx.trans he)
  · exact .inl hx
theorem stp_rest {A : List Int} {i i' : Nat} {τ y : Int} (h : Stp A i i' τ) (hy : y ∈ A.drop i') : y ∈ A.drop i := by
  rcases h with ⟨rfl, h⟩ | ⟨rfl, _⟩
  · rw [← List.drop_drop] at hy
    exact List.mem_of_mem_drop hy
  · exact hy
theorem stp_lt {A : List Int} {i i' : Nat} {τ y : Int} (sA : A.Pairwise (· < ·)) (h : Stp A i i' τ) (hy : y ∈ A.drop i') : τ < y := by
  rcases h with ⟨rfl, h⟩ | ⟨rfl, hh⟩
  · obtain ⟨hl, he⟩ := List.getElem?_eq_some_iff.1 h
    have sd := sA.sublist (List.drop_sublist i A)
    rw [List.drop_eq_getElem_cons hl, List.pairwise_cons] at sd
    rw [← he]
    exact sd.1 y hy
  · exact hh y hy
theorem stp_cnt_lt {A : List Int} {i i' : Nat} {τ t : Int} (h : Stp A i i' τ) (ht : t < τ) : cnt (A.take i') t = cnt (A.take i) t := by
  rcases h with ⟨rfl, h⟩ | ⟨rfl, _⟩
  · obtain ⟨hl, he⟩ := List.getElem?_eq_some_iff.1 h
    rw [take_succ_get A i hl, cnt_append, he, cnt_none (l := [τ]) (by simpa using ht)]
    rfl
  · rfl

theorem swp_step {want : Bool → Bool → Bool} {A B : List Int} {i j i' j' : Nat} {r r' : List Int} {τ : Int} (S : Swp want A B i j r) (sA : A.Pairwise (· < ·)) (sB : B.Pairwise (· < ·)) (hn : nearB τ)
    (hi : Stp A i i' τ) (hj : Stp B j j' τ) (hτ : τ ∈ A.drop i ∨ τ ∈ B.drop j) (hp : i + j < i' + j')
    (hr : (want (odd i') (odd j') ≠ odd r.length ∧ r' = r ++ [τ]) ∨ (want (odd i') (odd j') = odd r.length ∧ r' = r)) : Swp want A B i' j' r' := by
  have old : ∀ x, (x ∈ r ∨ x ∈ A.take i ∨ x ∈ B.take j) → x < τ := fun x hx => S.sep x hx τ hτ
  have hr' : ∀ x ∈ r', x ∈ r ∨ x = τ := by
    intro x hx
    rcases hr with ⟨_, rfl⟩ | ⟨_, rfl⟩
    · simpa using hx
    · exact .inl hx
  have par : odd r'.length = want (odd i') (odd j') := by
    rcases hr with ⟨h, rfl⟩ | ⟨h, rfl⟩
    · simp only [List.length_append, List.length_singleton, odd_succ]
      revert h
      cases odd r.length <;> cases want (odd i') (odd j') <;> simp
    · exact h.symm
  have hi' := stp_le hi S.hi
  have hj' := stp_le hj S.hj
  refine ⟨hi', hj', ?_, ?_, par, ?_, ?_, ?_⟩
  · intro x hx y hy
    have hxx : (x ∈ r ∨ x ∈ A.take i ∨ x ∈ B.take j) ∨ x = τ := by
      rcases hx with hx | hx | hx
      · rcases hr' x hx with h | h
        · exact .inl (.inl h)
        · exact .inr h
      · rcases stp_mem hi hx with h | h
        · exact .inl (.inr (.inl h))
        · exact .inr h
      · rcases stp_mem hj hx with h | h
        · exact .inl (.inr (.inr h))
        · exact .inr h
    have hτy : τ < y := by
      rcases hy with hy | hy
      · exact stp_lt sA hi hy
      · exact stp_lt sB hj hy
    rcases hxx with hxx | rfl
    · have := old x hxx; omega
    · exact hτy
  · rcases hr with ⟨_, rfl⟩ | ⟨_, rfl⟩
    · rw [List.pairwise_append]
      exact ⟨S.inc, List.pairwise_singleton _ _, fun a ha b hb => by simp at hb; subst hb; exact old a (.inl ha)⟩
    · exact S.inc
  · intro t
    by_cases ht : t < τ
    · rw [stp_cnt_lt hi ht, stp_cnt_lt hj ht, ← S.pts t]
      rcases hr with ⟨_, rfl⟩ | ⟨_, rfl⟩
      · rw [cnt_append, cnt_none (l := [τ]) (by simpa using ht)]; rfl
      · rfl
    · have e1 : cnt (A.take i') t = i' := by
        rw [cnt_all, List.length_take]
        · omega
        · intro x hx
          rcases stp_mem hi hx with h | h
          · have := old x (.inr (.inl h)); omega
          · omega
      have e2 : cnt (B.take j') t = j' := by
        rw [cnt_all, List.length_take]
        · omega
        · intro x hx
          rcases stp_mem hj hx with h | h
          · have := old x (.inr (.inr h)); omega
          · omega
      have e3 : cnt r' t = r'.length := by
        refine cnt_all fun x hx => ?_
        rcases hr' x hx with h | h
        · have := old x (.inl h); omega
        · omega
      rw [e1, e2, e3]
      exact par
  · have := S.len
    rcases hr with ⟨_, rfl⟩ | ⟨_, rfl⟩
    · simp only [List.length_append, List.length_singleton]; omega
    · omega
  · intro x hx
    rcases hr' x hx with h | rfl
    · exact S.near x h
    · exact hn

theorem swp_put {want : Bool → Bool → Bool} {A B : List Int} {i j i' j' : Nat} {r : List Int} {τ : Int} {x y z : Bool} (S : Swp want A B i j r) (sA : A.Pairwise (· < ·)) (sB : B.Pairwise (· < ·)) (hn : nearB τ)
    (hi : Stp A i i' τ) (hj : Stp B j j' τ) (hτ : τ ∈ A.drop i ∨ τ ∈ B.drop j) (hp : i + j < i' + j') (hx : x = odd i') (hy : y = odd j') (hz : z = odd r.length) (h : (!want x y == z) = true) : Swp want A B i' j' (r ++ [τ]) := by
  subst hx hy hz
  exact swp_step S sA sB hn hi hj hτ hp (.inl ⟨by simpa using h, rfl⟩)
theorem swp_skip {want : Bool → Bool → Bool} {A B : List Int} {i j i' j' : Nat} {r : List Int} {τ : Int} {x y z : Bool} (S : Swp want A B i j r) (sA : A.Pairwise (· < ·)) (sB : B.Pairwise (· < ·)) (hn : nearB τ)
    (hi : Stp A i i' τ) (hj : Stp B j j' τ) (hτ : τ ∈ A.drop i ∨ τ ∈ B.drop j) (hp : i + j < i' + j') (hx : x = odd i') (hy : y = odd j') (hz : z = odd r.length) (h : (!want x y == z) = false) : Swp want A B i' j' r := by
  subst hx hy hz
  exact swp_step S sA sB hn hi hj hτ hp (.inr ⟨by simpa using h, rfl⟩)
theorem stp_yes {A : List Int} {i : Nat} {τ : Int} (h : i < A.length) (e : A[i] = τ) : Stp A i (i + 1) τ := .inl ⟨rfl, by rw [List.getElem?_eq_getElem h, e]⟩
theorem stp_past {A : List Int} {i : Nat} {τ : Int} (h : A.length ≤ i) : Stp A i i τ := .inr ⟨rfl, fun y hy => by rw [List.drop_eq_nil_of_le h] at hy; cases hy⟩
theorem stp_no {A : List Int} {i : Nat} {τ : Int} (sA : A.Pairwise (· < ·)) (h : i < A.length) (e : τ < A[i]) : Stp A i i τ := by
  refine .inr ⟨rfl, fun y hy => ?_⟩
  have sd := sA.sublist (List.drop_sublist i A)
  rw [List.drop_eq_getElem_cons h] at hy sd
  rw [List.pairwise_cons] at sd
  simp only [List.mem_cons] at hy
  rcases hy with rfl | hy
  · exact e
  · have := sd.1 y hy; omega
theorem mem_drop_get {A : List Int} {i : Nat} (h : i < A.length) : A[i] ∈ A.drop i := by
  rw [List.drop_eq_getElem_cons h]; exact List.mem_cons_self

/-- does a set have a time? -/
def has (l : List (Int × Int)) (t : Int) : Bool := l.any fun p => decide (p.1 ≤ t) && decide (t < p.2)
theorem has_nil (t : Int) : has [] t = false := rfl
theorem has_cons (p : Int × Int) (l : List (Int × Int)) (t : Int) : has (p :: l) t = ((decide (p.1 ≤ t) && decide (t < p.2)) || has l t) := rfl

theorem has_append (a b : List (Int × Int)) (t : Int) : has (a ++ b) t = (has a t || has b t) := by simp [has]
theorem has_take_no {l : List (Int × Int)} {k : Nat} {t : Int} (hk : k < l.length) (h : has (l.take k) t = false) (hn : ¬ (l[k].1 ≤ t ∧ t < l[k].2)) : has (l.take (k + 1)) t = false := by
  rw [take_succ_get l k hk, has_append, h, has_cons, has_nil]
  simp only [Bool.false_or, Bool.or_false, Bool.and_eq_false_iff, decide_eq_false_iff_not]
  omega
theorem has_take_yes {l : List (Int × Int)} {k : Nat} {t : Int} (hk : k < l.length) (h1 : l[k].1 ≤ t) (h2 : t < l[k].2) : has l t = true := by
  unfold has
  rw [List.any_eq_true]
  exact ⟨l[k], List.getElem_mem hk, by simp [h1, h2]⟩

/-- how many times a list of intervals tells -/
def size (l : List (Int × Int)) : Int := (l.map fun p => p.2 - p.1).sum
theorem size_nil : size [] = 0 := rfl
theorem size_cons (p : Int × Int) (l : List (Int × Int)) : size (p :: l) = (p.2 - p.1) + size l := by simp [size]
theorem size_append (a b : List (Int × Int)) : size (a ++ b) = size a + size b := by
  induction a with
  | nil => simp [size_nil]
  | cons p a ih => rw [List.cons_append, size_cons, size_cons, ih]; omega
theorem size_take_succ {l : List (Int × Int)} {k : Nat} (hk : k < l.length) : size (l.take (k + 1)) = size (l.take k) + (l[k].2 - l[k].1) := by
  rw [take_succ_get l k hk, size_append, size_cons, size_nil]; omega
theorem size_take_bd {l : List (Int × Int)} (hn : Near l l.length) (k : Nat) (hk : k ≤ l.length) : -2000000000 * (k : Int) ≤ size (l.take k) ∧ size (l.take k) ≤ 2000000000 * (k : Int) := by
  induction k with
  | zero => simp [size_nil]
  | succ k ih =>
    have h1 := ih (by omega)
    have h2 := hn k (by omega)
    have hlt : k < l.length := by omega
    rw [List.getD_eq_getElem?_getD, List.getElem?_eq_getElem hlt] at h2
    simp only [Option.getD_some, nearB] at h2
    rw [size_take_succ hlt]
    omega

/-- a set: its ends rise -/
def Canon (l : List (Int × Int)) : Prop := (flat l).Pairwise (· < ·)

theorem canon_has {l : List (Int × Int)} (h : Canon l) (t : Int) : has l t = odd (cnt (flat l) t) := by
  induction l with
  | nil => rfl
  | cons p l ih =>
    unfold Canon at h
    rw [flat_cons, List.pairwise_cons, List.pairwise_cons] at h
    obtain ⟨h1, h2, h3⟩ := h
    have hp := h1 p.2 (by simp)
    have ih' := ih h3
    rw [flat_cons, cnt_cons, cnt_cons, has_cons, ih']
    by_cases a : p.1 ≤ t
    · by_cases b : p.2 ≤ t
      · rw [if_pos a, if_pos b, odd_succ, odd_succ]
        have : decide (t < p.2) = false := by simp; omega
        simp [this]
      · have c0 : cnt (flat l) t = 0 := cnt_none fun x hx => by have := h2 x hx; omega
        rw [if_pos a, if_neg b, c0]
        have : decide (t < p.2) = true := by simp; omega
        simp [a, this, odd]
    · have c0 : cnt (flat l) t = 0 := cnt_none fun x hx => by have := h2 x hx; omega
      rw [if_neg a, if_neg (by omega), c0]
      simp [a, odd_zero]

theorem inc_unique {R S : List Int} (hR : R.Pairwise (· < ·)) (hS : S.Pairwise (· < ·)) (h : ∀ t, odd (cnt R t) = odd (cnt S t)) : R = S := by
  induction R generalizing S with
  | nil =>
    cases S with
    | nil => rfl
    | cons y S =>
      rw [List.pairwise_cons] at hS
      have := h y
      rw [cnt_cons, cnt_none (l := S) hS.1, if_pos (Int.le_refl _)] at this
      simp [cnt_nil, odd] at this
  | cons x R ih =>
    rw [List.pairwise_cons] at hR
    cases S with
    | nil =>
      have := h x
      rw [cnt_cons, cnt_none (l := R) hR.1, if_pos (Int.le_refl _)] at this
      simp [cnt_nil, odd] at this
    | cons y S =>
      rw [List.pairwise_cons] at hS
      have hxy : x = y := by
        by_cases a : x < y
        · have := h x
          rw [cnt_cons, cnt_cons, cnt_none (l := R) hR.1, if_pos (Int.le_refl _), cnt_none (l := S) (fun z hz => by have := hS.1 z hz; omega), if_neg (by omega)] at this
          simp [odd] at this
        · by_cases b : y < x
          · have := h y
            rw [cnt_cons, cnt_cons, cnt_none (l := S) hS.1, if_pos (Int.le_refl _), cnt_none (l := R) (fun z hz => by have := hR.1 z hz; omega), if_neg (by omega)] at this
            simp [odd] at this
          · omega
      subst hxy
      rw [ih hR.2 hS.2]
      intro t
      have := h t
      rw [cnt_cons, cnt_cons] at this
      by_cases a : x ≤ t
      · rw [if_pos a, odd_succ, odd_succ] at this
        simpa using this
      · rw [if_neg a] at this
        exact this

theorem flat_inj {a b : List (Int × Int)} (h : flat a = flat b) : a = b := by
  induction a generalizing b with
  | nil =>
    cases b with
    | nil => rfl
    | cons q b => rw [flat_cons] at h; cases h
  | cons p a ih =>
    cases b with
    | nil => rw [flat_cons] at h; cases h
    | cons q b =>
      rw [flat_cons, flat_cons] at h
      injection h with h1 h2
      injection h2 with h2 h3
      rw [ih h3, Prod.ext h1 h2]

theorem canon_unique {a b : List (Int × Int)} (ha : Canon a) (hb : Canon b) (h : ∀ t, has a t = has b t) : a = b :=
  flat_inj (inc_unique ha hb fun t => by rw [← canon_has ha, ← canon_has hb]; exact h t)

/-- pairs of numbers that follow each other -/
def pairs : List Int → List (Int × Int)
  | x :: y :: l => (x, y) :: pairs l
  | _ => []
theorem flat_pairs (r : List Int) (h : odd r.length = false) : flat (pairs r) = r := by
  match r, h with
  | [], _ => rfl
  | [x], h => simp [odd] at h
  | x :: y :: l, h =>
    have := flat_pairs l (by simp only [List.length_cons, odd_succ] at h; simpa using h)
    rw [pairs, flat_cons, this]
theorem pairs_flat (l : List (Int × Int)) : pairs (flat l) = l := by
  induction l with
  | nil => rfl
  | cons p l ih => rw [flat_cons, pairs, ih]

/-- what both sets come to -/
structure SetIs (want : Bool → Bool → Bool) (a b r : List (Int × Int)) : Prop where
  canon : Canon r
  pts : ∀ t, has r t = want (has a t) (has b t)
  len : r.length ≤ a.length + b.length
  near : ∀ x ∈ flat r, nearB x

theorem setIs_of_swp {want : Bool → Bool → Bool} (hw : want false false = false) {a b : List (Int × Int)} {r : List Int} (ha : Canon a) (hb : Canon b) (S : Swp want (flat a) (flat b) (flat a).length (flat b).length r) :
    odd r.length = false ∧ SetIs want a b (pairs r) := by
  have he : odd r.length = false := by
    have := S.par
    rw [flat_length, flat_length, odd_two, odd_two, hw] at this
    exact this
  have hf := flat_pairs r he
  have hc : Canon (pairs r) := by unfold Canon; rw [hf]; exact S.inc
  refine ⟨he, hc, fun t => ?_, ?_, by rw [hf]; exact S.near⟩
  · have := S.pts t
    rw [List.take_length, List.take_length] at this
    rw [canon_has hc, hf, canon_has ha, canon_has hb]
    exact this
  · have h1 := S.len
    have h2 := flat_length (pairs r)
    rw [hf] at h2
    rw [flat_length, flat_length] at h1
    omega

theorem setIs_unique {want : Bool → Bool → Bool} {a b r s : List (Int × Int)} (h : SetIs want a b r) (hs : Canon s) (hp : ∀ t, has s t = want (has a t) (has b t)) : r = s :=
  canon_unique h.canon hs fun t => by rw [h.pts, hp]

theorem form_tail {p : Int × Int} {l : List (Int × Int)} (h : Form (p :: l) (l.length + 1)) : Form l l.length := by
  intro i hi
  have := h (i + 1) (by omega)
  refine ⟨by simpa using this.1, fun h0 => ?_⟩
  have h2 := this.2 (by omega)
  rw [show i + 1 - 1 = (i - 1) + 1 by omega] at h2
  simpa using h2

theorem canon_of_form {l : List (Int × Int)} (h : Form l l.length) : Canon l := by
  unfold Canon
  induction l with
  | nil => exact List.Pairwise.nil
  | cons p l ih =>
    have ih' := ih (form_tail h)
    have h0 := (h 0 (by simp)).1
    simp at h0
    have h1 : ∀ x ∈ flat l, p.2 < x := by
      cases l with
      | nil => simp [flat]
      | cons q l =>
        have hq := (h 1 (by simp)).2 (by omega)
        simp at hq
        rw [flat_cons] at ih' ⊢
        intro x hx
        rw [List.pairwise_cons] at ih'
        simp only [List.mem_cons] at hx
        rcases hx with rfl | hx
        · exact hq
        · have := ih'.1 x (by simpa using hx); omega
    rw [flat_cons, List.pairwise_cons, List.pairwise_cons]
    refine ⟨fun x hx => ?_, h1, ih'⟩
    simp only [List.mem_cons] at hx
    rcases hx with rfl | hx
    · exact h0
    · have := h1 x hx; omega

theorem form_of_canon {l : List (Int × Int)} (h : Canon l) : Form l l.length := by
  unfold Canon at h
  rw [List.pairwise_iff_getElem] at h
  intro i hi
  have hl := flat_length l
  obtain ⟨f0, f1⟩ := flat_getD l i hi
  obtain ⟨g0, f0⟩ := List.getElem?_eq_some_iff.1 f0
  obtain ⟨g1, f1⟩ := List.getElem?_eq_some_iff.1 f1
  refine ⟨?_, fun h0 => ?_⟩
  · rw [← f0, ← f1]; exact h _ _ g0 g1 (by omega)
  · obtain ⟨_, e1⟩ := flat_getD l (i - 1) (by omega)
    obtain ⟨k1, e1⟩ := List.getElem?_eq_some_iff.1 e1
    rw [← f0, ← e1]
    exact h _ _ k1 g0 (by omega)

theorem near_flat {l : List (Int × Int)} (h : Near l l.length) : ∀ x ∈ flat l, nearB x := by
  induction l with
  | nil => simp [flat]
  | cons p l ih =>
    have ih' := ih (fun i hi => by simpa using h (i + 1) (by simpa using hi))
    have h0 := h 0 (by simp)
    simp at h0
    rw [flat_cons]
    intro x hx
    simp only [List.mem_cons] at hx
    rcases hx with rfl | rfl | hx
    · exact h0.1
    · exact h0.2
    · exact ih' x hx

theorem near_of_flat {l : List (Int × Int)} (h : ∀ x ∈ flat l, nearB x) : Near l l.length := by
  intro i hi
  obtain ⟨f0, f1⟩ := flat_getD l i hi
  exact ⟨h _ (List.mem_of_getElem? f0), h _ (List.mem_of_getElem? f1)⟩

theorem chk_of_canon {l : List (Int × Int)} (hc : Canon l) (hn : ∀ x ∈ flat l, nearB x) (hl : l.length ≤ 200) : chk l = 0 :=
  chk_ok hl (near_of_flat hn) (form_of_canon hc)

end Go.Proofs.Ytanbbkoleekmjag

namespace Go.Proofs.Ytanbbkoleekmjag
open Go.RowKit

theorem ret_slice {ao : Option Addr} {n m n' m' : Nat} (h : n = n') (h' : m = m') : Ending.returned (.slice ao n m) = .returned (.slice ao n' m') := by rw [h, h']

/-- the pairs of l lie at ao, two cells each -/
def IvAt (w : World) (ao : Option Addr) (l : List (Int × Int)) : Prop :=
  l = [] ∨ ∃ b off, ao = some ⟨b, off, none⟩ ∧ b < w.heap.size ∧ ∀ j, j < l.length → w.cell? ⟨b, off + j * 2, none⟩ = some (.int .i64 (l.getD j (0, 0)).1) ∧ w.cell? ⟨b, off + j * 2 + 1, none⟩ = some (.int .i64 (l.getD j (0, 0)).2)

/-- the numbers of l lie at ao -/
def ZsAt (w : World) (ao : Option Addr) (l : List Int) : Prop :=
  l = [] ∨ ∃ b off, ao = some ⟨b, off, none⟩ ∧ b < w.heap.size ∧ ∀ j, j < l.length → w.cell? ⟨b, off + j, none⟩ = some (.int .i64 (l.getD j 0))

theorem IvAt.below {w w' : World} {ao : Option Addr} {l : List (Int × Int)} (h : IvAt w ao l) (hb : Below w.heap.size w w') : IvAt w' ao l := by
  rcases h with h | ⟨b, off, rfl, hlt, hc⟩
  · exact .inl h
  · refine .inr ⟨b, off, rfl, Nat.lt_of_lt_of_le hlt hb.size, fun j hj => ?_⟩
    rw [hb.cell (p := ⟨b, off + j * 2, none⟩) hlt, hb.cell (p := ⟨b, off + j * 2 + 1, none⟩) hlt]
    exact hc j hj

theorem ZsAt.below {w w' : World} {ao : Option Addr} {l : List Int} (h : ZsAt w ao l) (hb : Below w.heap.size w w') : ZsAt w' ao l := by
  rcases h with h | ⟨b, off, rfl, hlt, hc⟩
  · exact .inl h
  · refine .inr ⟨b, off, rfl, Nat.lt_of_lt_of_le hlt hb.size, fun j hj => ?_⟩
    rw [hb.cell (p := ⟨b, off + j, none⟩) hlt]
    exact hc j hj


theorem Try.infoInt : (Try.prog.info? 3).map (fun i => (i.zero, i.size, i.bytes)) = some (some (.int .i64 0), 1, 8) := by kernel_rfl
theorem Try.infoIvl : (Try.prog.info? 55).map (fun i => (i.zero, i.size, i.bytes)) = some (some (.agg #[.int .i64 0, .int .i64 0]), 2, 16) := by kernel_rfl

/-- what a row of numbers that the call owns holds -/
theorem zsAt_of_owns {w : World} {base e : Nat} {v : Value} {n : Nat} {l : List Int} (h : w.ownsRow base e 1 v n (l.map (Value.int .i64))) : ∃ ao cap, v = .slice ao l.length cap ∧ ZsAt w ao l := by
  obtain ⟨h1, h2⟩ := h
  simp only [List.length_map, Nat.mul_one] at h1
  subst h1
  rcases h2 with ⟨rfl, h0⟩ | ⟨g, cap, cur, rfl, hb, hh, h3, h4, h5, h6⟩
  · exact ⟨none, 0, by rw [h0], .inl (List.eq_nil_of_length_eq_zero h0)⟩
  · refine ⟨_, cap, rfl, .inr ⟨g, 0, rfl, (Array.getElem?_eq_some_iff.1 hh).1, fun j hj => ?_⟩⟩
    have := World.ownsRow.cellAt (w := w) (base := base) (e := e) (size := 1) (xs := l.map (Value.int .i64)) ⟨by simp, .inr ⟨g, cap, cur, rfl, hb, hh, h3, h4, h5, h6⟩⟩ j (by omega)
    rw [Nat.zero_add, this, List.getElem?_map, List.getD_eq_getElem?_getD, List.getElem?_eq_getElem hj]
    rfl

/-- the cells of pairs -/
def encs (l : List (Int × Int)) : List Value := (flat l).map (Value.int .i64)

/-- what a row of pairs that the call owns holds -/
theorem ivAt_of_owns {w : World} {base e : Nat} {v : Value} {n : Nat} {l : List (Int × Int)} (h : w.ownsRow base e 2 v n (encs l)) : ∃ ao cap, v = .slice ao l.length cap ∧ IvAt w ao l := by
  obtain ⟨h1, h2⟩ := h
  simp only [encs, List.length_map, flat_length] at h1
  have hn : n = l.length := by omega
  subst hn
  rcases h2 with ⟨rfl, h0⟩ | ⟨g, cap, cur, rfl, hb, hh, h3, h4, h5, h6⟩
  · exact ⟨none, 0, by rw [h0], .inl (List.eq_nil_of_length_eq_zero h0)⟩
  · have hown : w.ownsRow base e 2 (.slice (some ⟨g, 0, none⟩) l.length cap) l.length (encs l) := ⟨by simp [encs, flat_length]; omega, .inr ⟨g, cap, cur, rfl, hb, hh, h3, h4, h5, h6⟩⟩
    refine ⟨_, cap, rfl, .inr ⟨g, 0, rfl, (Array.getElem?_eq_some_iff.1 hh).1, fun j hj => ?_⟩⟩
    obtain ⟨f0, f1⟩ := flat_getD l j hj
    rw [Nat.zero_add, hown.cellAt (j * 2) (by omega), hown.cellAt (j * 2 + 1) (by omega)]
    simp only [encs, List.getElem?_map, f0, f1]
    exact ⟨rfl, rfl⟩

/-- an owned row stays while nothing below the heap's size turns -/
theorem ownsRow_below {w w' : World} {base e size : Nat} {v : Value} {n : Nat} {xs : List Value} (h : w.ownsRow base e size v n xs) (hb : Below w.heap.size w w') : w'.ownsRow base e size v n xs :=
  h.kept (row := none) ⟨hb.os, hb.tape, hb.output, hb.size, fun k hk _ => hb.block k hk⟩ (by cases v.ownBlock <;> simp)

/-- two cells in a new block -/
theorem cells_two_new (w : World) (B : Nat) (t : TypeId) (x y : Value) (hB : B = w.heap.size) : ∀ j u, [x, y][j]? = some u → (w.alloc (.cells #[x, y] t)).cell? ((⟨B, 0, none⟩ : Addr).add j) = some u := by
  subst hB
  intro j u hj
  match j, hj with
  | 0, hj => simp at hj; subst hj; simp [Addr.add]
  | 1, hj => simp at hj; subst hj; simp [Addr.add]

/-- what a call that tells a set and an error hands back: the error n with nothing, or a set -/
def Told (w w' : World) (e : Ending) (n : Int) (r : List (Int × Int)) : Prop :=
  ∃ ao cap, e = .returned (.tuple #[.slice ao r.length cap, .int .i64 n]) ∧ IvAt w' ao r ∧ Below w.heap.size w w'

/-- the same, in memory of the call's own -/
def Told2 (w w' : World) (e : Ending) (n : Int) (r : List (Int × Int)) : Prop :=
  ∃ v, e = .returned (.tuple #[v, .int .i64 n]) ∧ w'.ownsRow w.heap.size 55 2 v r.length (encs r) ∧ Below w.heap.size w w'
theorem told_of_own {w w' : World} {e : Ending} {n : Int} {r : List (Int × Int)} (h : Told2 w w' e n r) : Told w w' e n r := by
  obtain ⟨v, he, ho, hb⟩ := h
  obtain ⟨ao, cap, rfl, hz⟩ := ivAt_of_owns ho
  exact ⟨ao, cap, he, hz, hb⟩
theorem nil2 (w W : World) : W.ownsRow w.heap.size 55 2 (.slice none 0 0) ([] : List (Int × Int)).length (encs []) := World.ownsRow_nil _ _ _ _
theorem owns_base2 {w : World} {base base' e size : Nat} {v : Value} {n : Nat} {xs : List Value} (h : w.ownsRow base e size v n xs) (hb : base' ≤ base) : w.ownsRow base' e size v n xs :=
  ⟨h.1, h.2.imp id (fun ⟨g, c, cur, h1, h2, h3⟩ => ⟨g, c, cur, h1, Nat.le_trans hb h2, h3⟩)⟩
theorem hide2 {p : Prop} (h : p) : Hid p := h

end Go.Proofs.Ytanbbkoleekmjag

namespace Go.Proofs.Ytanbbkoleekmjag

/-- a leg: From, To, Time, Cost -/
abbrev Lg := Int × Int × Int × Int
/-- an edge: A, B, its legs -/
abbrev Ed := Int × Int × List Lg
/-- a graph -/
structure Gr where
  hor : Int
  lives : List (Int × Int)
  edges : List Ed

/-- is n from lo to hi? -/
def inR (n lo hi : Int) : Bool := decide (lo ≤ n) && decide (n ≤ hi)
/-- are the times from a to b some, and times of the graph? -/
def spanB (a b h : Int) : Bool := decide (0 ≤ a) && (decide (a < b) && decide (b ≤ h))
/-- is the leg one? -/
def fitB (l : Lg) (h : Int) : Bool := spanB l.1 l.2.1 h && (inR l.2.2.1 1 50 && inR l.2.2.2 0 1000)

/-- legs, behind a leg that ends at p -/
def lgChk (h p : Int) : List Lg → Int
  | [] => 0
  | l :: ls => if fitB l h = false then 1 else if l.1 < p then 5 else lgChk h l.2.1 ls
/-- an edge -/
def edChk (h n : Int) (e : Ed) : Int := if (inR e.1 0 (n - 1) && inR e.2.1 0 (n - 1)) = false then 4 else if 6 < e.2.2.length then 2 else lgChk h 0 e.2.2
def edsChk (h n : Int) : List Ed → Int
  | [] => 0
  | e :: es => if edChk h n e = 0 then edsChk h n es else edChk h n e
def lvChk (h : Int) : List (Int × Int) → Int
  | [] => 0
  | p :: ps => if spanB p.1 p.2 h = true then lvChk h ps else 1
/-- what Check answers -/
def gChk (g : Gr) : Int :=
  if inR g.hor 1 100 = false then 1 else if 12 < g.lives.length ∨ 30 < g.edges.length then 2 else if lvChk g.hor g.lives ≠ 0 then 1 else edsChk g.hor g.lives.length g.edges

theorem inR_iff (n lo hi : Int) : inR n lo hi = true ↔ lo ≤ n ∧ n ≤ hi := by unfold inR; simp
theorem inR_no {n lo hi : Int} (h : ¬ (lo ≤ n ∧ n ≤ hi)) : inR n lo hi = false := by rw [← Bool.not_eq_true, inR_iff]; exact h
theorem spanB_iff (a b h : Int) : spanB a b h = true ↔ 0 ≤ a ∧ a < b ∧ b ≤ h := by unfold spanB; simp
theorem spanB_no {a b h : Int} (k : ¬ (0 ≤ a ∧ a < b ∧ b ≤ h)) : spanB a b h = false := by rw [← Bool.not_eq_true, spanB_iff]; exact k
theorem fitB_iff (l : Lg) (h : Int) : fitB l h = true ↔ (0 ≤ l.1 ∧ l.1 < l.2.1 ∧ l.2.1 ≤ h) ∧ (1 ≤ l.2.2.1 ∧ l.2.2.1 ≤ 50) ∧ (0 ≤ l.2.2.2 ∧ l.2.2.2 ≤ 1000) := by
  unfold fitB; rw [Bool.and_eq_true, Bool.and_eq_true, spanB_iff, inR_iff, inR_iff]

theorem lgChk_cases (h : Int) : ∀ (l : List Lg) (p : Int), lgChk h p l = 0 ∨ lgChk h p l = 1 ∨ lgChk h p l = 5
  | [], p => .inl rfl
  | l :: ls, p => by
    unfold lgChk
    split
    · exact .inr (.inl rfl)
    · split
      · exact .inr (.inr rfl)
      · exact lgChk_cases h ls _
theorem edChk_cases (h n : Int) (e : Ed) : edChk h n e = 0 ∨ edChk h n e = 1 ∨ edChk h n e = 2 ∨ edChk h n e = 4 ∨ edChk h n e = 5 := by
  unfold edChk
  split
  · simp
  · split
    · simp
    · rcases lgChk_cases h e.2.2 0 with k | k | k <;> simp [k]
theorem edsChk_cases (h n : Int) : ∀ l : List Ed, edsChk h n l = 0 ∨ edsChk h n l = 1 ∨ edsChk h n l = 2 ∨ edsChk h n l = 4 ∨ edsChk h n l = 5
  | [] => .inl rfl
  | e :: es => by
    unfold edsChk
    split
    · exact edsChk_cases h n es
    · exact edChk_cases h n e
theorem lvChk_cases (h : Int) : ∀ l : List (Int × Int), lvChk h l = 0 ∨ lvChk h l = 1
  | [] => .inl rfl
  | p :: ps => by
    unfold lvChk
    split
    · exact lvChk_cases h ps
    · exact .inr rfl
theorem gChk_cases (g : Gr) : gChk g = 0 ∨ gChk g = 1 ∨ gChk g = 2 ∨ gChk g = 4 ∨ gChk g = 5 := by
  unfold gChk
  split
  · simp
  · split
    · simp
    · split
      · simp
      · exact edsChk_cases _ _ _

theorem drop_get {α : Type} (l : List α) (k : Nat) (h : k < l.length) : l.drop k = l[k] :: l.drop (k + 1) := (List.drop_eq_getElem_cons h)

/-- the To of the leg ahead of leg k; 0 ahead of the first -/
def prevTo (l : List Lg) : Nat → Int
  | 0 => 0
  | k + 1 => (l.getD k (0, 0, 0, 0)).2.1

theorem lg_bad {h : Int} {l : List Lg} {k : Nat} (hk : k < l.length) (hI : lgChk h 0 l = lgChk h (prevTo l k) (l.drop k)) (hf : fitB l[k] h = false) : lgChk h 0 l = 1 := by
  rw [hI, drop_get l k hk, lgChk, if_pos hf]
theorem lg_form {h : Int} {l : List Lg} {k : Nat} (hk : k < l.length) (hI : lgChk h 0 l = lgChk h (prevTo l k) (l.drop k)) (hf : fitB l[k] h = true) (hp : l[k].1 < prevTo l k) : lgChk h 0 l = 5 := by
  rw [hI, drop_get l k hk, lgChk, if_neg (by simp [hf]), if_pos hp]
theorem lg_next {h : Int} {l : List Lg} {k : Nat} (hk : k < l.length) (hI : lgChk h 0 l = lgChk h (prevTo l k) (l.drop k)) (hf : fitB l[k] h = true) (hp : ¬ l[k].1 < prevTo l k) : lgChk h 0 l = lgChk h (prevTo l (k + 1)) (l.drop (k + 1)) := by
  rw [hI, drop_get l k hk, lgChk, if_neg (by simp [hf]), if_neg hp]
  simp [prevTo, List.getD_eq_getElem?_getD, List.getElem?_eq_getElem hk]
theorem lg_end {h : Int} {l : List Lg} (hI : lgChk h 0 l = lgChk h (prevTo l l.length) (l.drop l.length)) : lgChk h 0 l = 0 := by
  rw [hI, List.drop_length]; rfl
theorem prevTo_succ {l : List Lg} {k : Nat} (hk : k < l.length) : prevTo l (k + 1) = l[k].2.1 := by
  simp [prevTo, List.getD_eq_getElem?_getD, List.getElem?_eq_getElem hk]

theorem eds_stop {h n : Int} {l : List Ed} {k : Nat} (hk : k < l.length) (hI : edsChk h n l = edsChk h n (l.drop k)) (he : edChk h n l[k] ≠ 0) : edsChk h n l = edChk h n l[k] := by
  rw [hI, drop_get l k hk, edsChk, if_neg he]
theorem eds_next {h n : Int} {l : List Ed} {k : Nat} (hk : k < l.length) (hI : edsChk h n l = edsChk h n (l.drop k)) (he : edChk h n l[k] = 0) : edsChk h n l = edsChk h n (l.drop (k + 1)) := by
  rw [hI, drop_get l k hk, edsChk, if_pos he]
theorem eds_end {h n : Int} {l : List Ed} (hI : edsChk h n l = edsChk h n (l.drop l.length)) : edsChk h n l = 0 := by
  rw [hI, List.drop_length]; rfl
theorem lv_stop {h : Int} {l : List (Int × Int)} {k : Nat} (hk : k < l.length) (hI : lvChk h l = lvChk h (l.drop k)) (he : spanB l[k].1 l[k].2 h = false) : lvChk h l = 1 := by
  rw [hI, drop_get l k hk, lvChk, if_neg (by simp [he])]
theorem lv_next {h : Int} {l : List (Int × Int)} {k : Nat} (hk : k < l.length) (hI : lvChk h l = lvChk h (l.drop k)) (he : spanB l[k].1 l[k].2 h = true) : lvChk h l = lvChk h (l.drop (k + 1)) := by
  rw [hI, drop_get l k hk, lvChk, if_pos he]
theorem lv_end {h : Int} {l : List (Int × Int)} (hI : lvChk h l = lvChk h (l.drop l.length)) : lvChk h l = 0 := by
  rw [hI, List.drop_length]; rfl

theorem gChk_hor {g : Gr} (h : inR g.hor 1 100 = false) : gChk g = 1 := by unfold gChk; rw [if_pos h]
theorem gChk_large {g : Gr} (h : inR g.hor 1 100 = true) (k : 12 < g.lives.length ∨ 30 < g.edges.length) : gChk g = 2 := by unfold gChk; rw [if_neg (by simp [h]), if_pos k]
theorem gChk_life {g : Gr} (h : inR g.hor 1 100 = true) (k : ¬ (12 < g.lives.length ∨ 30 < g.edges.length)) (l : lvChk g.hor g.lives = 1) : gChk g = 1 := by unfold gChk; rw [if_neg (by simp [h]), if_neg k, if_pos (by omega)]
theorem gChk_rest {g : Gr} (h : inR g.hor 1 100 = true) (k : ¬ (12 < g.lives.length ∨ 30 < g.edges.length)) (l : lvChk g.hor g.lives = 0) : gChk g = edsChk g.hor g.lives.length g.edges := by unfold gChk; rw [if_neg (by simp [h]), if_neg k, if_neg (by omega)]

/-- what a right graph is -/
structure Right (g : Gr) : Prop where
  hor : 1 ≤ g.hor ∧ g.hor ≤ 100
  lvs : g.lives.length ≤ 12
  eds : g.edges.length ≤ 30
  life : ∀ p ∈ g.lives, 0 ≤ p.1 ∧ p.1 < p.2 ∧ p.2 ≤ g.hor
  ends : ∀ e ∈ g.edges, (0 ≤ e.1 ∧ e.1 < g.lives.length) ∧ (0 ≤ e.2.1 ∧ e.2.1 < g.lives.length) ∧ e.2.2.length ≤ 6
  legs : ∀ e ∈ g.edges, ∀ l ∈ e.2.2, fitB l g.hor = true

theorem lv_all {h : Int} : ∀ {l : List (Int × Int)}, lvChk h l = 0 → ∀ p ∈ l, spanB p.1 p.2 h = true
  | [], _, p, hp => by simp at hp
  | q :: l, hl, p, hp => by
    unfold lvChk at hl
    by_cases hq : spanB q.1 q.2 h = true
    · rw [if_pos hq] at hl
      rcases List.mem_cons.1 hp with rfl | hp
      · exact hq
      · exact lv_all hl p hp
    · rw [if_neg hq] at hl; omega
theorem lg_all {h : Int} : ∀ {l : List Lg} {p : Int}, lgChk h p l = 0 → ∀ x ∈ l, fitB x h = true
  | [], _, _, x, hx => by simp at hx
  | q :: l, p, hl, x, hx => by
    unfold lgChk at hl
    by_cases hq : fitB q h = false
    · rw [if_pos hq] at hl; omega
    · rw [if_neg hq] at hl
      by_cases hp : q.1 < p
      · rw [if_pos hp] at hl; omega
      · rw [if_neg hp] at hl
        rcases List.mem_cons.1 hx with rfl | hx
        · simpa using hq
        · exact lg_all hl x hx
theorem eds_all {h n : Int} : ∀ {l : List Ed}, edsChk h n l = 0 → ∀ e ∈ l, edChk h n e = 0
  | [], _, e, he => by simp at he
  | q :: l, hl, e, he => by
    unfold edsChk at hl
    by_cases hq : edChk h n q = 0
    · rw [if_pos hq] at hl
      rcases List.mem_cons.1 he with rfl | he
      · exact hq
      · exact eds_all hl e he
    · rw [if_neg hq] at hl; exact absurd hl hq
theorem gChk_right {g : Gr} (h : gChk g = 0) : Right g := by
  unfold gChk at h
  by_cases h1 : inR g.hor 1 100 = false
  · rw [if_pos h1] at h; omega
  rw [if_neg h1] at h
  by_cases h2 : 12 < g.lives.length ∨ 30 < g.edges.length
  · rw [if_pos h2] at h; omega
  rw [if_neg h2] at h
  by_cases h3 : lvChk g.hor g.lives ≠ 0
  · rw [if_pos h3] at h; omega
  rw [if_neg h3] at h
  have e0 := eds_all h
  have hed : ∀ e ∈ g.edges, (0 ≤ e.1 ∧ e.1 < g.lives.length) ∧ (0 ≤ e.2.1 ∧ e.2.1 < g.lives.length) ∧ e.2.2.length ≤ 6 ∧ lgChk g.hor 0 e.2.2 = 0 := by
    intro e he
    have := e0 e he
    unfold edChk at this
    by_cases k1 : (inR e.1 0 (g.lives.length - 1) && inR e.2.1 0 (g.lives.length - 1)) = false
    · rw [if_pos k1] at this; omega
    rw [if_neg k1] at this
    by_cases k2 : 6 < e.2.2.length
    · rw [if_pos k2] at this; omega
    rw [if_neg k2] at this
    rw [Bool.not_eq_false, Bool.and_eq_true, inR_iff, inR_iff] at k1
    exact ⟨⟨k1.1.1, by omega⟩, ⟨k1.2.1, by omega⟩, by omega, this⟩
  refine ⟨(inR_iff _ _ _).1 (by simpa using h1), by omega, by omega, fun p hp => (spanB_iff _ _ _).1 (lv_all (by omega) p hp), fun e he => ?_, fun e he l hl => lg_all (hed e he).2.2.2 l hl⟩
  have := hed e he
  exact ⟨this.1, this.2.1, this.2.2.1⟩

end Go.Proofs.Ytanbbkoleekmjag

namespace Go.Proofs.Ytanbbkoleekmjag
open Go.RowKit

theorem ret_bool {a b : Bool} (h : a = b) : Ending.returned (.bool a) = .returned (.bool b) := by rw [h]
theorem ret_int {k : IntKind} {a b : Int} (h : a = b) : Ending.returned (.int k a) = .returned (.int k b) := by rw [h]

/-- is a number near? -/
def nrB (x : Int) : Bool := decide (-1000000000 ≤ x) && decide (x ≤ 1000000000)
theorem nrB_iff (x : Int) : nrB x = true ↔ nearB x := by unfold nrB nearB; simp only [Bool.and_eq_true, decide_eq_true_eq]
theorem nrB_all_no {l : List Int} {k : Nat} (hk : k < l.length) (h : ¬ nearB l[k]) : l.all nrB = false := by
  rw [← Bool.not_eq_true, List.all_eq_true]
  intro hh
  exact h ((nrB_iff _).1 (hh l[k] (List.getElem_mem hk)))
theorem nrB_take_succ {l : List Int} {k : Nat} (hk : k < l.length) (h0 : (l.take k).all nrB = true) (h : nearB l[k]) : (l.take (k + 1)).all nrB = true := by
  rw [take_succ_get l k hk, List.all_append, h0]
  simp [(nrB_iff _).2 h]

set_option maxHeartbeats 400000 in
/-- Near of the program: are all these numbers near? -/
theorem Near_any (ao : Option Addr) (cap : Nat) (l : List Int) (w : World) (hl : ZsAt w ao l) (hn : l.length ≤ 9223372036854775807) :
    Calls Try.prog 60 #[.slice ao l.length cap] w fun e w' => e = .returned (.bool (l.all nrB)) ∧ w' = w := by
  go_enter Try.func60, Try.ntmps60
  go_wp2
  go_loop [7] (fun i => ∃ k : Nat, k ≤ l.length ∧ i = .int .i64 k ∧ (l.take k).all nrB = true) (fun i => l.length - (intOf i).toNat)
  case atStart => exact ⟨0, Nat.zero_le _, rfl, rfl⟩
  case round =>
    obtain ⟨k, hk, rfl, hh⟩ := hrel
    have HH : Hid ((l.take k).all nrB = true) := hh
    clear hh
    by_cases hlt : k < l.length
    · rcases hl with h0 | ⟨b, off, rfl, hbw, hc⟩
      · subst h0; simp at hlt
      have c0 := hc k hlt
      have hg : l.getD k 0 = l[k] := by simp [List.getD_eq_getElem?_getD, List.getElem?_eq_getElem hlt]
      rw [hg] at c0
      clear hc hg
      by_cases g1 : l[k] < -1000000000
      · have HC : Hid (l.all nrB = false) := nrB_all_no hlt (by unfold nearB; omega)
        go_wp2
        go_ret
        exact ⟨ret_bool HC.out.symm, rfl⟩
      · by_cases g2 : l[k] > 1000000000
        · have HC : Hid (l.all nrB = false) := nrB_all_no hlt (by unfold nearB; omega)
          go_wp2
          go_ret
          exact ⟨ret_bool HC.out.symm, rfl⟩
        · have HC : Hid ((l.take (k + 1)).all nrB = true) := nrB_take_succ hlt HH.out (by unfold nearB; omega)
          go_wp2
          go_round
          case rel => exact ⟨k + 1, by omega, by go_num, HC.out⟩
          case measure => simp [intOf]; omega
    · have hkl : k = l.length := by omega
      subst hkl
      have HC : Hid (l.all nrB = true) := by have := HH.out; rwa [List.take_length] at this
      go_wp2
      go_ret
      exact ⟨ret_bool HC.out.symm, rfl⟩

theorem Near_two (B : Nat) (x y : Int) (w : World) (hB : B < w.heap.size) (c0 : w.cell? ⟨B, 0, none⟩ = some (.int .i64 x)) (c1 : w.cell? ⟨B, 1, none⟩ = some (.int .i64 y)) :
    Calls Try.prog 60 #[.slice (some ⟨B, 0, none⟩) 2 2] w fun e w' => e = .returned (.bool (nrB x && nrB y)) ∧ w' = w := by
  have h := Near_any (some ⟨B, 0, none⟩) 2 [x, y] w (.inr ⟨B, 0, rfl, hB, fun j hj => by
    match j, hj with
    | 0, _ => exact c0
    | 1, _ => exact c1⟩) (by simp)
  simpa using h

end Go.Proofs.Ytanbbkoleekmjag

namespace Go.Proofs.Ytanbbkoleekmjag
open Go.RowKit

end Go.Proofs.Ytanbbkoleekmjag

namespace Go.Proofs.Ytanbbkoleekmjag
open Go.RowKit

theorem ptg {a b c : World} (h1 : Below a.heap.size a b) (h2 : Below b.heap.size b c) : Below a.heap.size a c := h1.trans (h2.mono h1.size)
theorem gal (w : World) (o : Obj) : Below w.heap.size w (w.alloc o) := (Below.refl _ _).alloc (Nat.le_refl _) o
theorem hideg {p : Prop} (h : p) : Hid p := h

/-- legs lie at ao, four cells each -/
def LgAt (w : World) (ao : Option Addr) (m : List Lg) : Prop :=
  m = [] ∨ ∃ b off, ao = some ⟨b, off, none⟩ ∧ b < w.heap.size ∧ ∀ j, j < m.length → w.cell? ⟨b, off + j * 4, none⟩ = some (.int .i64 (m.getD j (0, 0, 0, 0)).1) ∧ w.cell? ⟨b, off + j * 4 + 1, none⟩ = some (.int .i64 (m.getD j (0, 0, 0, 0)).2.1) ∧ w.cell? ⟨b, off + j * 4 + 2, none⟩ = some (.int .i64 (m.getD j (0, 0, 0, 0)).2.2.1) ∧ w.cell? ⟨b, off + j * 4 + 3, none⟩ = some (.int .i64 (m.getD j (0, 0, 0, 0)).2.2.2)

theorem LgAt.below {w w' : World} {ao : Option Addr} {m : List Lg} (h : LgAt w ao m) (hb : Below w.heap.size w w') : LgAt w' ao m := by
  rcases h with h | ⟨b, off, rfl, hlt, hc⟩
  · exact .inl h
  · refine .inr ⟨b, off, rfl, Nat.lt_of_lt_of_le hlt hb.size, fun j hj => ?_⟩
    rw [hb.cell (p := ⟨b, off + j * 4, none⟩) hlt, hb.cell (p := ⟨b, off + j * 4 + 1, none⟩) hlt, hb.cell (p := ⟨b, off + j * 4 + 2, none⟩) hlt, hb.cell (p := ⟨b, off + j * 4 + 3, none⟩) hlt]
    exact hc j hj
theorem LgAt.get {w : World} {b off : Nat} {m : List Lg} {k : Nat} (hk : k < m.length) (hc : ∀ j, j < m.length → w.cell? ⟨b, off + j * 4, none⟩ = some (.int .i64 (m.getD j (0, 0, 0, 0)).1) ∧ w.cell? ⟨b, off + j * 4 + 1, none⟩ = some (.int .i64 (m.getD j (0, 0, 0, 0)).2.1) ∧ w.cell? ⟨b, off + j * 4 + 2, none⟩ = some (.int .i64 (m.getD j (0, 0, 0, 0)).2.2.1) ∧ w.cell? ⟨b, off + j * 4 + 3, none⟩ = some (.int .i64 (m.getD j (0, 0, 0, 0)).2.2.2)) :
    w.cell? ⟨b, off + k * 4, none⟩ = some (.int .i64 m[k].1) ∧ w.cell? ⟨b, off + k * 4 + 1, none⟩ = some (.int .i64 m[k].2.1) ∧ w.cell? ⟨b, off + k * 4 + 2, none⟩ = some (.int .i64 m[k].2.2.1) ∧ w.cell? ⟨b, off + k * 4 + 3, none⟩ = some (.int .i64 m[k].2.2.2) := by
  have := hc k hk
  rwa [List.getD_eq_getElem?_getD, List.getElem?_eq_getElem hk] at this
theorem IvAt.get {w : World} {b off : Nat} {m : List (Int × Int)} {k : Nat} (hk : k < m.length) (hc : ∀ j, j < m.length → w.cell? ⟨b, off + j * 2, none⟩ = some (.int .i64 (m.getD j (0, 0)).1) ∧ w.cell? ⟨b, off + j * 2 + 1, none⟩ = some (.int .i64 (m.getD j (0, 0)).2)) :
    w.cell? ⟨b, off + k * 2, none⟩ = some (.int .i64 m[k].1) ∧ w.cell? ⟨b, off + k * 2 + 1, none⟩ = some (.int .i64 m[k].2) := by
  have := hc k hk
  rwa [List.getD_eq_getElem?_getD, List.getElem?_eq_getElem hk] at this

/-- one edge lies at an address -/
def EdOne (w : World) (b off : Nat) (e : Ed) : Prop :=
  w.cell? ⟨b, off, none⟩ = some (.int .i64 e.1) ∧ w.cell? ⟨b, off + 1, none⟩ = some (.int .i64 e.2.1) ∧ ∃ la lc, w.cell? ⟨b, off + 2, none⟩ = some (.slice la e.2.2.length lc) ∧ LgAt w la e.2.2 ∧ e.2.2.length ≤ lc ∧ lc ≤ 9223372036854775807
/-- edges lie at ao, three cells each -/
def EdAt (w : World) (ao : Option Addr) (m : List Ed) : Prop :=
  m = [] ∨ ∃ b off, ao = some ⟨b, off, none⟩ ∧ b < w.heap.size ∧ ∀ j (h : j < m.length), EdOne w b (off + j * 3) m[j]

theorem EdOne.below {w w' : World} {b off : Nat} {e : Ed} (hlt : b < w.heap.size) (h : EdOne w b off e) (hb : Below w.heap.size w w') : EdOne w' b off e := by
  obtain ⟨h0, h1, la, lc, h2, hl, hn, hm⟩ := h
  exact ⟨by rw [hb.cell (p := ⟨b, off, none⟩) hlt, h0], by rw [hb.cell (p := ⟨b, off + 1, none⟩) hlt, h1], la, lc, by rw [hb.cell (p := ⟨b, off + 2, none⟩) hlt, h2], hl.below hb, hn, hm⟩
theorem EdAt.below {w w' : World} {ao : Option Addr} {m : List Ed} (h : EdAt w ao m) (hb : Below w.heap.size w w') : EdAt w' ao m := by
  rcases h with h | ⟨b, off, rfl, hlt, hc⟩
  · exact .inl h
  · exact .inr ⟨b, off, rfl, Nat.lt_of_lt_of_le hlt hb.size, fun j hj => (hc j hj).below hlt hb⟩

/-- a graph's lists lie at la, ea -/
structure GAt (w : World) (la ea : Option Addr) (g : Gr) : Prop where
  lv : IvAt w la g.lives
  ed : EdAt w ea g.edges
  nl : g.lives.length ≤ 9223372036854775807
  ne : g.edges.length ≤ 9223372036854775807
theorem GAt.below {w w' : World} {la ea : Option Addr} {g : Gr} (h : GAt w la ea g) (hb : Below w.heap.size w w') : GAt w' la ea g := ⟨h.lv.below hb, h.ed.below hb, h.nl, h.ne⟩

theorem Try.infoLeg : (Try.prog.info? 75).map (fun i => (i.zero, i.size, i.bytes)) = some (some (.agg #[.int .i64 0, .int .i64 0, .int .i64 0, .int .i64 0]), 4, 32) := by kernel_rfl
theorem Try.infoEdge : (Try.prog.info? 78).map (fun i => (i.zero, i.size, i.bytes)) = some (some (.agg #[.int .i64 0, .int .i64 0, .slice none 0 0]), 3, 40) := by kernel_rfl

end Go.Proofs.Ytanbbkoleekmjag

namespace Go.Proofs.Ytanbbkoleekmjag
open Go.RowKit

theorem within_any (n lo hi : Int) (w : World) : Calls Try.prog 43 #[.int .i64 n, .int .i64 lo, .int .i64 hi] w fun e w' => e = .returned (.bool (inR n lo hi)) ∧ w' = w := by
  by_cases g1 : lo ≤ n
  · by_cases g2 : n ≤ hi
    · have HC := hideg ((inR_iff n lo hi).2 ⟨g1, g2⟩)
      go_enter Try.func43, Try.ntmps43
      go_wp2
      go_ret
      exact ⟨ret_bool HC.out.symm, rfl⟩
    · have HC := hideg (inR_no (n := n) (lo := lo) (hi := hi) (fun h => g2 h.2))
      go_enter Try.func43, Try.ntmps43
      go_wp2
      go_ret
      exact ⟨ret_bool HC.out.symm, rfl⟩
  · have HC := hideg (inR_no (n := n) (lo := lo) (hi := hi) (fun h => g1 h.1))
    go_enter Try.func43, Try.ntmps43
    go_wp2
    go_ret
    exact ⟨ret_bool HC.out.symm, rfl⟩

theorem span_any (a b h : Int) (w : World) : Calls Try.prog 44 #[.int .i64 a, .int .i64 b, .int .i64 h] w fun e w' => e = .returned (.bool (spanB a b h)) ∧ w' = w := by
  by_cases g1 : 0 ≤ a
  · by_cases g2 : a < b
    · by_cases g3 : b ≤ h
      · have HC := hideg ((spanB_iff a b h).2 ⟨g1, g2, g3⟩)
        go_enter Try.func44, Try.ntmps44
        go_wp2
        go_ret
        exact ⟨ret_bool HC.out.symm, rfl⟩
      · have HC := hideg (spanB_no (a := a) (b := b) (h := h) (fun k => g3 k.2.2))
        go_enter Try.func44, Try.ntmps44
        go_wp2
        go_ret
        exact ⟨ret_bool HC.out.symm, rfl⟩
    · have HC := hideg (spanB_no (a := a) (b := b) (h := h) (fun k => g2 k.2.1))
      go_enter Try.func44, Try.ntmps44
      go_wp2
      go_ret
      exact ⟨ret_bool HC.out.symm, rfl⟩
  · have HC := hideg (spanB_no (a := a) (b := b) (h := h) (fun k => g1 k.1))
    go_enter Try.func44, Try.ntmps44
    go_wp2
    go_ret
    exact ⟨ret_bool HC.out.symm, rfl⟩

set_option maxHeartbeats 1000000 in
theorem fits_any (l : Lg) (h : Int) (w : World) : Calls Try.prog 61 #[.agg #[.int .i64 l.1, .int .i64 l.2.1, .int .i64 l.2.2.1, .int .i64 l.2.2.2], .int .i64 h] w fun e w' => e = .returned (.bool (fitB l h)) ∧ Below w.heap.size w w' := by
  have HB := hideg (gal w)
  have HF : Hid (fitB l h = (spanB l.1 l.2.1 h && (inR l.2.2.1 1 50 && inR l.2.2.2 0 1000))) := rfl
  cases e1 : spanB l.1 l.2.1 h <;> cases e2 : inR l.2.2.1 1 50 <;> cases e3 : inR l.2.2.2 0 1000 <;> rw [e1, e2, e3] at HF
  all_goals
    go_enter Try.func61, Try.ntmps61
    go_wp2_with (first | (go_at_call 44; refine (span_any _ _ _ _).mono ?_; rintro e w' ⟨rfl, rfl⟩) | (go_at_call 43; refine (within_any _ _ _ _).mono ?_; rintro e w' ⟨rfl, rfl⟩))
    go_ret
    exact ⟨ret_bool HF.out.symm, HB.out _⟩

set_option maxRecDepth 100000 in
theorem gHasV_any (h : Int) (la ea : Option Addr) (nl lc ne ec : Nat) (v : Int) (w : World) (hnl : nl ≤ 12) :
    Calls Try.prog 29 #[.agg #[.int .i64 h, .slice la nl lc, .slice ea ne ec], .int .i64 v] w fun r w' => r = .returned (.bool (inR v 0 ((nl : Int) - 1))) ∧ Below w.heap.size w w' := by
  have HB := hideg (gal w)
  go_enter Try.func29, Try.ntmps29
  go_wp2_with (go_at_call 43; refine (within_any _ _ _ _).mono ?_; rintro e w' ⟨rfl, rfl⟩)
  go_ret
  exact ⟨rfl, HB.out _⟩

set_option maxRecDepth 100000 in
theorem gHasT_any (h : Int) (la ea : Option Addr) (nl lc ne ec : Nat) (t : Int) (w : World) (h0 : 1 ≤ h) (h1 : h ≤ 100) :
    Calls Try.prog 40 #[.agg #[.int .i64 h, .slice la nl lc, .slice ea ne ec], .int .i64 t] w fun r w' => r = .returned (.bool (inR t 0 (h - 1))) ∧ Below w.heap.size w w' := by
  have HB := hideg (gal w)
  go_enter Try.func40, Try.ntmps40
  go_wp2_with (go_at_call 43; refine (within_any _ _ _ _).mono ?_; rintro e w' ⟨rfl, rfl⟩)
  go_ret
  exact ⟨rfl, HB.out _⟩

end Go.Proofs.Ytanbbkoleekmjag

namespace Go.Proofs.Ytanbbkoleekmjag
open Go.RowKit

theorem edChk_none {h n : Int} {e : Ed} (k : (inR e.1 0 (n - 1) && inR e.2.1 0 (n - 1)) = false) : edChk h n e = 4 := by unfold edChk; rw [if_pos k]
theorem edChk_large {h n : Int} {e : Ed} (k : (inR e.1 0 (n - 1) && inR e.2.1 0 (n - 1)) = true) (l : 6 < e.2.2.length) : edChk h n e = 2 := by unfold edChk; rw [if_neg (by simp [k]), if_pos l]
theorem edChk_legs {h n : Int} {e : Ed} (k : (inR e.1 0 (n - 1) && inR e.2.1 0 (n - 1)) = true) (l : ¬ 6 < e.2.2.length) : edChk h n e = lgChk h 0 e.2.2 := by unfold edChk; rw [if_neg (by simp [k]), if_neg l]

set_option maxRecDepth 100000 in
set_option maxHeartbeats 4000000 in
theorem checkEdge_any (h : Int) (la ea : Option Addr) (nl lc ne ec : Nat) (e : Ed) (lo : Option Addr) (lcap : Nat) (w : World) (hL : LgAt w lo e.2.2) (hnl : nl ≤ 12) :
    Calls Try.prog 45 #[.agg #[.int .i64 h, .slice la nl lc, .slice ea ne ec], .agg #[.int .i64 e.1, .int .i64 e.2.1, .slice lo e.2.2.length lcap]] w fun r w' => r = .returned (.int .i64 (edChk h nl e)) ∧ Below w.heap.size w w' := by
  obtain ⟨A, B, legs⟩ := e
  simp only at hL ⊢
  have HB : Hid (∀ o o', Below w.heap.size w ((w.alloc o).alloc o')) := fun o o' => ptg (gal w o) (gal _ o')
  obtain ⟨W2, hW2⟩ : ∃ x, x = (w.alloc (.cells #[.int .i64 h, .slice la nl lc, .slice ea ne ec] 25)).alloc (.cells #[.int .i64 A, .int .i64 B, .slice lo legs.length lcap] 78) := ⟨_, rfl⟩
  have HQ2 : Hid (∀ W, Below (w.heap.size + 2) W2 W → W.cell? ⟨w.heap.size, 0, none⟩ = some (.int .i64 h) ∧ W.cell? ⟨w.heap.size, 1, none⟩ = some (.slice la nl lc) ∧ W.cell? ⟨w.heap.size, 2, none⟩ = some (.slice ea ne ec) ∧ W.cell? ⟨w.heap.size + 1, 0, none⟩ = some (.int .i64 A) ∧ W.cell? ⟨w.heap.size + 1, 1, none⟩ = some (.int .i64 B) ∧ W.cell? ⟨w.heap.size + 1, 2, none⟩ = some (.slice lo legs.length lcap)) := by
    intro W hb
    refine ⟨?_, ?_, ?_, ?_, ?_, ?_⟩
    · rw [hb.cell (p := ⟨w.heap.size, 0, none⟩) (by simp), hW2]; simp
    · rw [hb.cell (p := ⟨w.heap.size, 1, none⟩) (by simp), hW2]; simp
    · rw [hb.cell (p := ⟨w.heap.size, 2, none⟩) (by simp), hW2]; simp
    · rw [hb.cell (p := ⟨w.heap.size + 1, 0, none⟩) (by simp), hW2]; simp
    · rw [hb.cell (p := ⟨w.heap.size + 1, 1, none⟩) (by simp), hW2]; simp
    · rw [hb.cell (p := ⟨w.heap.size + 1, 2, none⟩) (by simp), hW2]; simp
  have hs2 : W2.heap.size = w.heap.size + 2 := by rw [hW2]; simp
  have HW : Hid (∀ W, Below (w.heap.size + 2) W2 W → Below w.heap.size w W) := fun W hb => by rw [hW2] at hb; exact (HB.out _ _).trans (hb.mono (by omega))
  have hvA := fun W => gHasV_any h la ea nl lc ne ec A W hnl
  have hvB := fun W => gHasV_any h la ea nl lc ne ec B W hnl
  have HS2 := hideg hs2
  have hW2s := hW2.symm
  clear hs2 hW2
  cases e1 : inR A 0 ((nl : Int) - 1)
  · have HC := hideg (edChk_none (h := h) (n := nl) (e := (A, B, legs)) (by simp [e1]))
    rw [e1] at hvA
    have Q := HQ2.out W2 (Below.refl _ _)
    obtain ⟨q0, q1, q2, q3, q4, q5⟩ := Q
    clear hL hvB e1
    go_enter Try.func45, Try.ntmps45
    go_wp2_with fail
    refine (hvA _).mono ?_
    rintro e w3 ⟨rfl, hb3⟩
    have hbF := HW.out w3 (by rw [HS2.out] at hb3; exact hb3)
    clear hvA hb3 hW2s q0 q1 q2 q3 q4 q5
    go_wp2
    go_ret
    exact ⟨ret_int HC.out.symm, hbF⟩
  cases e2 : inR B 0 ((nl : Int) - 1)
  · have HC := hideg (edChk_none (h := h) (n := nl) (e := (A, B, legs)) (by simp [e2]))
    rw [e1] at hvA
    rw [e2] at hvB
    obtain ⟨q0, q1, q2, q3, q4, q5⟩ := HQ2.out W2 (Below.refl _ _)
    clear hL e1 e2
    go_enter Try.func45, Try.ntmps45
    go_wp2_with fail
    refine (hvA _).mono ?_
    rintro e w3 ⟨rfl, hb3⟩
    rw [HS2.out] at hb3
    have HB3 := hideg hb3
    clear hvA hb3 hW2s q0 q1 q2 q3 q4 q5
    obtain ⟨q0, q1, q2, q3, q4, q5⟩ := HQ2.out w3 HB3.out
    go_wp2_with fail
    refine (hvB _).mono ?_
    rintro e w4 ⟨rfl, hb4⟩
    have hbF := HW.out w4 (HB3.out.trans (hb4.mono (by have := HB3.out.size; have := HS2.out; omega)))
    clear hvB hb4 q0 q1 q2 q3 q4 q5
    go_wp2
    go_ret
    exact ⟨ret_int HC.out.symm, hbF⟩
  rw [e1] at hvA
  rw [e2] at hvB
  by_cases h6 : 6 < legs.length
  · have HC := hideg (edChk_large (h := h) (n := nl) (e := (A, B, legs)) (by simp [e1, e2]) h6)
    obtain ⟨q0, q1, q2, q3, q4, q5⟩ := HQ2.out W2 (Below.refl _ _)
    clear hL e1 e2
    go_enter Try.func45, Try.ntmps45
    go_wp2_with fail
    refine (hvA _).mono ?_
    rintro e w3 ⟨rfl, hb3⟩
    rw [HS2.out] at hb3
    have HB3 := hideg hb3
    clear hvA hb3 hW2s q0 q1 q2 q3 q4 q5
    obtain ⟨q0, q1, q2, q3, q4, q5⟩ := HQ2.out w3 HB3.out
    go_wp2_with fail
    refine (hvB _).mono ?_
    rintro e w4 ⟨rfl, hb4⟩
    have HB4 := hideg (HB3.out.trans (hb4.mono (by have := HB3.out.size; have := HS2.out; omega)))
    have hbF := HW.out w4 HB4.out
    clear hvB hb4 q0 q1 q2 q3 q4 q5
    obtain ⟨q0, q1, q2, q3, q4, q5⟩ := HQ2.out w4 HB4.out
    go_wp2
    go_ret
    exact ⟨ret_int HC.out.symm, hbF⟩
  have HC := hideg (edChk_legs (h := h) (n := nl) (e := (A, B, legs)) (by simp [e1, e2]) h6)
  have h6' : legs.length ≤ 6 := by omega
  obtain ⟨q0, q1, q2, q3, q4, q5⟩ := HQ2.out W2 (Below.refl _ _)
  clear e1 e2
  go_enter Try.func45, Try.ntmps45
  go_wp2_with fail
  refine (hvA _).mono ?_
  rintro e w3 ⟨rfl, hb3⟩
  rw [HS2.out] at hb3
  have HB3 := hideg hb3
  clear hvA hb3 hW2s q0 q1 q2 q3 q4 q5
  obtain ⟨q0, q1, q2, q3, q4, q5⟩ := HQ2.out w3 HB3.out
  go_wp2_with fail
  refine (hvB _).mono ?_
  rintro e w4 ⟨rfl, hb4⟩
  have HB4 := hideg (HB3.out.trans (hb4.mono (by have := HB3.out.size; have := HS2.out; omega)))
  clear hvB hb4 q0 q1 q2 q3 q4 q5
  obtain ⟨q0, q1, q2, q3, q4, q5⟩ := HQ2.out w4 HB4.out
  go_wp2_with fail
  go_loopw [6, 26] (fun _ i wr => ∃ k : Nat, k ≤ legs.length ∧ i = .int .i64 k ∧ lgChk h 0 legs = lgChk h (prevTo legs k) (legs.drop k) ∧ Below (w.heap.size + 2) W2 wr) (fun _ i _ => legs.length - (intOf i).toNat)
  case atStart => exact ⟨0, Nat.zero_le _, rfl, rfl, HB4.out⟩
  case round =>
    obtain ⟨k, hk, rfl, hI, hb⟩ := hrel
    have HI := hideg hI
    clear hI
    have hbw : Below w.heap.size w wr := HW.out wr hb
    clear q0 q1 q2 q3 q4 q5
    by_cases hlt : k < legs.length
    · have hz := hb.size
      rw [HS2.out] at hz
      have hz0 : w.heap.size < wr.heap.size := by omega
      have hz1 : w.heap.size + 1 < wr.heap.size := by omega
      rcases hL.below hbw with h0 | ⟨b, off, rfl, hbr, hc⟩
      · subst h0; simp at hlt
      obtain ⟨c0, c1, c2, c3⟩ := LgAt.get hlt hc
      have q0 : wr.cell? ⟨w.heap.size, 0, none⟩ = some (.int .i64 h) := (HQ2.out wr hb).1
      have HN : Hid (∀ o w1, Below (wr.alloc o).heap.size (wr.alloc o) w1 → Below w.heap.size w w1 ∧ Below (w.heap.size + 2) W2 w1) := by
        intro o w1 h1
        have := ptg (gal wr o) h1
        exact ⟨hbw.trans (this.mono hbw.size), hb.trans (this.mono (by omega))⟩
      cases ef : fitB legs[k] h
      · have HR := hideg (lg_bad hlt HI.out ef)
        clear hc hL
        go_wp2_with (go_at_call 61; refine (fits_any legs[k] _ _).mono ?_; rintro e w1 ⟨rfl, hb1⟩)
        go_ret
        exact ⟨ret_int (by rw [HC.out, HR.out]), (HN.out _ _ hb1).1⟩
      · have hf := (fitB_iff legs[k] h).1 ef
        by_cases hk0 : k = 0
        · subst hk0
          simp only [Nat.zero_mul, Nat.add_zero] at c0 c1 c2 c3
          have HR := hideg (lg_next hlt HI.out ef (by simp only [prevTo]; omega))
          clear hc hL hf
          go_wp2_with (go_at_call 61; refine (fits_any legs[0] _ _).mono ?_; rintro e w1 ⟨rfl, hb1⟩)
          go_quiet (fail)
          go_wp2
          go_roundw
          case rel => exact ⟨0 + 1, by omega, by go_num, HR.out, below_drewN (HN.out _ _ hb1).2 _⟩
          case measure => simp [intOf]; omega
        · obtain ⟨m, rfl⟩ : ∃ m, k = m + 1 := ⟨k - 1, by omega⟩
          have hm : m < legs.length := by omega
          have cp := (LgAt.get hm hc).2.1
          have HP := hideg (prevTo_succ hm)
          have q2 : wr.cell? ⟨w.heap.size + 1, 2, none⟩ = some (.slice (some ⟨b, off, none⟩) legs.length lcap) := (HQ2.out wr hb).2.2.2.2.2
          have HQ : Hid (∀ o w1, Below (wr.alloc o).heap.size (wr.alloc o) w1 → w1.cell? ⟨w.heap.size + 1, 2, none⟩ = some (.slice (some ⟨b, off, none⟩) legs.length lcap) ∧ w1.cell? ⟨b, off + m * 4 + 1, none⟩ = some (.int .i64 legs[m].2.1)) := by
            intro o w1 h1
            have := ptg (gal wr o) h1
            exact ⟨by rw [this.cell (p := ⟨w.heap.size + 1, 2, none⟩) (by simp; omega), q2], by rw [this.cell (p := ⟨b, off + m * 4 + 1, none⟩) hbr, cp]⟩
          by_cases g : legs[m + 1].1 < legs[m].2.1
          · have HR := hideg (lg_form hlt HI.out ef (by rw [HP.out]; exact g))
            clear hc hL hf q2 cp
            go_wp2_with (go_at_call 61; refine (fits_any legs[m + 1] _ _).mono ?_; rintro e w1 ⟨rfl, hb1⟩)
            have hb2 := hideg hb1
            obtain ⟨d2, dp⟩ := HQ.out _ _ hb2.out
            have d0 : w1.cell? ⟨wr.heap.size, 0, none⟩ = some (.int .i64 legs[m + 1].1) := by rw [hb2.out.cell (p := ⟨wr.heap.size, 0, none⟩) (by simp)]; simp
            go_quiet (fail)
            go_wp2
            go_ret
            exact ⟨ret_int (by rw [HC.out, HR.out]), below_drewN (HN.out _ _ hb2.out).1 _⟩
          · have HR := hideg (lg_next hlt HI.out ef (by rw [HP.out]; exact g))
            have dg : decide (legs[m + 1].1 < legs[m].2.1) = false := by simpa using g
            clear hc hL hf q2 cp
            go_wp2_with (go_at_call 61; refine (fits_any legs[m + 1] _ _).mono ?_; rintro e w1 ⟨rfl, hb1⟩)
            have hb2 := hideg hb1
            obtain ⟨d2, dp⟩ := HQ.out _ _ hb2.out
            have d0 : w1.cell? ⟨wr.heap.size, 0, none⟩ = some (.int .i64 legs[m + 1].1) := by rw [hb2.out.cell (p := ⟨wr.heap.size, 0, none⟩) (by simp)]; simp
            go_quiet (fail)
            go_wp2
            go_roundw
            case rel => exact ⟨m + 1 + 1, by omega, by go_num, HR.out, below_drewN (HN.out _ _ hb2.out).2 _⟩
            case measure => simp [intOf]; omega
    · have hkl : k = legs.length := by omega
      subst hkl
      have HR := hideg (lg_end HI.out)
      go_wp2
      go_ret
      exact ⟨ret_int (by rw [HC.out, HR.out]), hbw⟩

end Go.Proofs.Ytanbbkoleekmjag

namespace Go.Proofs.Ytanbbkoleekmjag
open Go.RowKit

theorem fitB_no {l : Lg} {h : Int} (k : l.1 < 0 ∨ l.2.1 ≤ l.1 ∨ h < l.2.1 ∨ inR l.2.2.1 1 50 = false ∨ inR l.2.2.2 0 1000 = false) : fitB l h = false := by
  rw [← Bool.not_eq_true, fitB_iff]
  rintro ⟨h1, h2, h3⟩
  rcases k with k | k | k | k | k
  · omega
  · omega
  · omega
  · rw [(inR_iff _ _ _).2 h2] at k; simp at k
  · rw [(inR_iff _ _ _).2 h3] at k; simp at k
theorem fitB_yes {l : Lg} {h : Int} (k1 : ¬ l.1 < 0) (k2 : ¬ l.2.1 ≤ l.1) (k3 : ¬ h < l.2.1) (k4 : inR l.2.2.1 1 50 = true) (k5 : inR l.2.2.2 0 1000 = true) : fitB l h = true :=
  (fitB_iff l h).2 ⟨⟨by omega, by omega, by omega⟩, (inR_iff _ _ _).1 k4, (inR_iff _ _ _).1 k5⟩

end Go.Proofs.Ytanbbkoleekmjag

namespace Go.Proofs.Ytanbbkoleekmjag
open Go.RowKit

set_option maxRecDepth 100000 in
set_option maxHeartbeats 4000000 in
theorem gCheck_any (g : Gr) (la ea : Option Addr) (lc ec : Nat) (w : World) (hG : GAt w la ea g) :
    Calls Try.prog 21 #[.agg #[.int .i64 g.hor, .slice la g.lives.length lc, .slice ea g.edges.length ec]] w fun r w' => r = .returned (.int .i64 (gChk g)) ∧ Below w.heap.size w w' := by
  obtain ⟨h, lives, edges⟩ := g
  have HB := hideg (gal w)
  cases e1 : inR h 1 100
  · have HC := hideg (gChk_hor (g := ⟨h, lives, edges⟩) e1)
    clear hG
    go_enter Try.func21, Try.ntmps21
    go_wp2_with (go_at_call 43; refine (within_any _ _ _ _).mono ?_; rintro e w' ⟨rfl, rfl⟩)
    go_ret
    exact ⟨ret_int HC.out.symm, HB.out _⟩
  by_cases n1 : 12 < lives.length
  · have HC := hideg (gChk_large (g := ⟨h, lives, edges⟩) e1 (.inl n1))
    clear hG
    go_enter Try.func21, Try.ntmps21
    go_wp2_with (go_at_call 43; refine (within_any _ _ _ _).mono ?_; rintro e w' ⟨rfl, rfl⟩)
    go_ret
    exact ⟨ret_int HC.out.symm, HB.out _⟩
  by_cases n2 : 30 < edges.length
  · have HC := hideg (gChk_large (g := ⟨h, lives, edges⟩) e1 (.inr n2))
    clear hG
    go_enter Try.func21, Try.ntmps21
    go_wp2_with (go_at_call 43; refine (within_any _ _ _ _).mono ?_; rintro e w' ⟨rfl, rfl⟩)
    go_ret
    exact ⟨ret_int HC.out.symm, HB.out _⟩
  have HL := hideg (fun k => gChk_life (g := ⟨h, lives, edges⟩) e1 (by simp only; omega) k)
  have HR := hideg (fun k => gChk_rest (g := ⟨h, lives, edges⟩) e1 (by simp only; omega) k)
  have hlv : IvAt w la lives := hG.lv
  have hed : EdAt w ea edges := hG.ed
  clear hG
  go_enter Try.func21, Try.ntmps21
  go_wp2_with (go_at_call 43; refine (within_any _ _ _ _).mono ?_; rintro e w' ⟨rfl, rfl⟩)
  go_loopw [25] (fun i wr => ∃ k : Nat, k ≤ lives.length ∧ i = .int .i64 k ∧ lvChk h lives = lvChk h (lives.drop k) ∧ Below (w.heap.size + 1) (w.alloc (.cells #[.int .i64 h, .slice la lives.length lc, .slice ea edges.length ec] 25)) wr) (fun i _ => lives.length - (intOf i).toNat)
  case atStart => exact ⟨0, Nat.zero_le _, rfl, rfl, Below.refl _ _⟩
  case round =>
    obtain ⟨k, hk, rfl, hI, hb⟩ := hrel
    have HI := hideg hI
    clear hI
    have hbw : Below w.heap.size w wr := (HB.out _).trans (hb.mono (by omega))
    have hz := hb.size
    simp only [World.size_alloc] at hz
    have hz0 : w.heap.size < wr.heap.size := by omega
    have q0 : wr.cell? ⟨w.heap.size, 0, none⟩ = some (.int .i64 h) := by rw [hb.cell (p := ⟨w.heap.size, 0, none⟩) (by simp)]; simp
    have q1 : wr.cell? ⟨w.heap.size, 1, none⟩ = some (.slice la lives.length lc) := by rw [hb.cell (p := ⟨w.heap.size, 1, none⟩) (by simp)]; simp
    have q2 : wr.cell? ⟨w.heap.size, 2, none⟩ = some (.slice ea edges.length ec) := by rw [hb.cell (p := ⟨w.heap.size, 2, none⟩) (by simp)]; simp
    by_cases hlt : k < lives.length
    · rcases hlv.below hbw with h0 | ⟨b, off, rfl, hbr, hc⟩
      · subst h0; simp at hlt
      obtain ⟨c0, c1⟩ := IvAt.get hlt hc
      have HN := hideg (fun o => (⟨hbw.alloc hbw.size o, hb.alloc (by omega) o⟩ : Below w.heap.size w (wr.alloc o) ∧ Below (w.heap.size + 1) (w.alloc (.cells #[.int .i64 h, .slice (some ⟨b, off, none⟩) lives.length lc, .slice ea edges.length ec] 25)) (wr.alloc o)))
      clear hc hlv hed
      cases ef : spanB lives[k].1 lives[k].2 h
      · have HC := hideg (lv_stop hlt HI.out ef)
        go_wp2_with (go_at_call 44; refine (span_any _ _ _ _).mono ?_; rintro e w1 ⟨rfl, rfl⟩)
        go_ret
        exact ⟨ret_int (HL.out HC.out).symm, (HN.out _).1⟩
      · have HC := hideg (lv_next hlt HI.out ef)
        go_wp2_with (go_at_call 44; refine (span_any _ _ _ _).mono ?_; rintro e w1 ⟨rfl, rfl⟩)
        go_roundw
        case rel => exact ⟨k + 1, by omega, by go_num, HC.out, (HN.out _).2⟩
        case measure => simp [intOf]; omega
    · have hkl : k = lives.length := by omega
      subst hkl
      have HC := hideg (HR.out (lv_end HI.out))
      have hlv2 := hlv.below hbw
      have hed2 := hed.below hbw
      have HBW := hideg hbw
      clear hlv hed hbw hb HL HR
      obtain ⟨wo, hwo⟩ : ∃ wo, wo = wr := ⟨_, rfl⟩
      subst hwo
      go_wp2
      go_loopw [7, 41] (fun _ i wr => ∃ k : Nat, k ≤ edges.length ∧ i = .int .i64 k ∧ edsChk h lives.length edges = edsChk h lives.length (edges.drop k) ∧ Below wo.heap.size wo wr) (fun _ i _ => edges.length - (intOf i).toNat)
      case atStart => exact ⟨0, Nat.zero_le _, rfl, rfl, Below.refl _ _⟩
      case round =>
        obtain ⟨k, hk, rfl, hI, hb⟩ := hrel
        have HI := hideg hI
        clear hI
        have hz := hb.size
        have hz1 : w.heap.size < wr.heap.size := by omega
        by_cases hlt : k < edges.length
        · rcases hed2.below hb with h0 | ⟨b, off, rfl, hbr, hc⟩
          · subst h0; simp at hlt
          obtain ⟨c0, c1, lo, lcap, c2, hL, _, _⟩ := hc k hlt
          have p0 : wr.cell? ⟨w.heap.size, 0, none⟩ = some (.int .i64 h) := by rw [hb.cell (p := ⟨w.heap.size, 0, none⟩) hz0, q0]
          have p2 : wr.cell? ⟨w.heap.size, 2, none⟩ = some (.slice (some ⟨b, off, none⟩) edges.length ec) := by rw [hb.cell (p := ⟨w.heap.size, 2, none⟩) hz0, q2]
          have p1 : wr.cell? ⟨w.heap.size, 1, none⟩ = some (.slice la lives.length lc) := by rw [hb.cell (p := ⟨w.heap.size, 1, none⟩) hz0, q1]
          have HN : Hid (∀ o w1, Below (wr.alloc o).heap.size (wr.alloc o) w1 → Below wo.heap.size wo w1) := by
            intro o w1 h1
            exact ptg hb (ptg (gal wr o) h1)
          have hcl := fun o => checkEdge_any h la (some ⟨b, off, none⟩) lives.length lc edges.length ec edges[k] lo lcap (wr.alloc o) (hL.below (gal wr o)) (by omega)
          clear hc hed2 hlv2 hL q0 q1 q2
          by_cases he : edChk h lives.length edges[k] = 0
          · have HC2 := hideg (eds_next hlt HI.out he)
            rw [he] at hcl
            clear he
            go_wp2_with (go_at_call 45; refine (hcl _).mono ?_; rintro e w1 ⟨rfl, hb1⟩)
            go_roundw
            case rel => exact ⟨k + 1, by omega, by go_num, HC2.out, HN.out _ _ hb1⟩
            case measure => simp [intOf]; omega
          · have HC2 := hideg (eds_stop hlt HI.out he)
            have hne : (edChk h lives.length edges[k] != 0) = true := by simpa using he
            generalize edChk h lives.length edges[k] = ev at *
            go_wp2_with (go_at_call 45; refine (hcl _).mono ?_; rintro e w1 ⟨rfl, hb1⟩)
            go_ret
            exact ⟨ret_int (by rw [HC.out]; exact HC2.out.symm), ptg HBW.out (HN.out _ _ hb1)⟩
        · have hkl : k = edges.length := by omega
          subst hkl
          have HC2 := hideg (eds_end HI.out)
          go_wp2
          go_ret
          exact ⟨ret_int (by rw [HC.out]; exact HC2.out.symm), ptg HBW.out hb⟩

end Go.Proofs.Ytanbbkoleekmjag

namespace Go.Proofs.Ytanbbkoleekmjag

/-- does t lie from a to b - 1? -/
def hasB (a b t : Int) : Bool := decide (a ≤ t) && decide (t < b)
/-- the leg of some legs that has t -/
def lgFind (t : Int) : List Lg → Option Lg
  | [] => none
  | l :: ls => if hasB l.1 l.2.1 t = true then some l else lgFind t ls
/-- which vertices are alive -/
def aliveL (t : Int) (lives : List (Int × Int)) : List Bool := lives.map fun p => hasB p.1 p.2 t
/-- is the vertex v alive? -/
def aliveB (t : Int) (lives : List (Int × Int)) (v : Int) : Bool := (aliveL t lives).getD v.toNat false
/-- the arc of an edge, if it has one -/
def arcOf (t : Int) (lives : List (Int × Int)) (e : Ed) : List (Int × Int × Int) :=
  match lgFind t e.2.2 with
  | none => []
  | some l => if (aliveB t lives e.1 && aliveB t lives e.2.1) = true then [(e.1, e.2.1, l.2.2.2)] else []
def arcsL (t : Int) (lives : List (Int × Int)) (edges : List Ed) : List (Int × Int × Int) := edges.flatMap (arcOf t lives)
/-- the error that At tells -/
def atErr (g : Gr) (t : Int) : Int := if gChk g = 0 then (if inR t 0 (g.hor - 1) = true then 0 else 1) else gChk g

theorem hasB_iff (a b t : Int) : hasB a b t = true ↔ a ≤ t ∧ t < b := by unfold hasB; simp
theorem hasB_no {a b t : Int} (h : ¬ (a ≤ t ∧ t < b)) : hasB a b t = false := by rw [← Bool.not_eq_true, hasB_iff]; exact h
theorem lgFind_hit {t : Int} {l : List Lg} {k : Nat} (hk : k < l.length) (hI : lgFind t l = lgFind t (l.drop k)) (h : hasB l[k].1 l[k].2.1 t = true) : lgFind t l = some l[k] := by
  rw [hI, drop_get l k hk, lgFind, if_pos h]
theorem lgFind_next {t : Int} {l : List Lg} {k : Nat} (hk : k < l.length) (hI : lgFind t l = lgFind t (l.drop k)) (h : hasB l[k].1 l[k].2.1 t = false) : lgFind t l = lgFind t (l.drop (k + 1)) := by
  rw [hI, drop_get l k hk, lgFind, if_neg (by simp [h])]
theorem lgFind_end {t : Int} {l : List Lg} (hI : lgFind t l = lgFind t (l.drop l.length)) : lgFind t l = none := by rw [hI, List.drop_length]; rfl
theorem aliveL_length (t : Int) (lives : List (Int × Int)) : (aliveL t lives).length = lives.length := by simp [aliveL]
theorem aliveL_take (t : Int) (lives : List (Int × Int)) (k : Nat) (hk : k < lives.length) : aliveL t (lives.take (k + 1)) = aliveL t (lives.take k) ++ [hasB lives[k].1 lives[k].2 t] := by
  unfold aliveL; rw [List.take_succ_eq_append_getElem hk, List.map_append]; rfl
theorem aliveB_at (t : Int) (lives : List (Int × Int)) (v : Nat) (h : v < lives.length) : aliveB t lives v = hasB lives[v].1 lives[v].2 t := by
  unfold aliveB aliveL
  rw [Int.toNat_natCast, List.getD_eq_getElem?_getD, List.getElem?_map, List.getElem?_eq_getElem h]; rfl
theorem arcs_take (t : Int) (lives : List (Int × Int)) (edges : List Ed) (k : Nat) (hk : k < edges.length) : arcsL t lives (edges.take (k + 1)) = arcsL t lives (edges.take k) ++ arcOf t lives edges[k] := by
  unfold arcsL
  rw [List.take_succ_eq_append_getElem hk, List.flatMap_append, List.flatMap_singleton]
theorem arcOf_none {t : Int} {lives : List (Int × Int)} {e : Ed} (h : lgFind t e.2.2 = none) : arcOf t lives e = [] := by unfold arcOf; rw [h]
theorem arcOf_dead {t : Int} {lives : List (Int × Int)} {e : Ed} (h : (aliveB t lives e.1 && aliveB t lives e.2.1) = false) : arcOf t lives e = [] := by
  unfold arcOf
  cases lgFind t e.2.2 with
  | none => rfl
  | some l => simp only [h]; rfl
theorem arcOf_some {t : Int} {lives : List (Int × Int)} {e : Ed} {l : Lg} (h : lgFind t e.2.2 = some l) (k : (aliveB t lives e.1 && aliveB t lives e.2.1) = true) : arcOf t lives e = [(e.1, e.2.1, l.2.2.2)] := by
  unfold arcOf; rw [h]; simp only [k, if_true]
theorem arcOf_len (t : Int) (lives : List (Int × Int)) (e : Ed) : (arcOf t lives e).length ≤ 1 := by
  unfold arcOf
  split
  · simp
  · split <;> simp
theorem arcs_len (t : Int) (lives : List (Int × Int)) : ∀ edges : List Ed, (arcsL t lives edges).length ≤ edges.length
  | [] => by simp [arcsL]
  | e :: es => by
    have h1 := arcs_len t lives es
    have h2 := arcOf_len t lives e
    unfold arcsL at h1 ⊢
    rw [List.flatMap_cons, List.length_append, List.length_cons]; omega

end Go.Proofs.Ytanbbkoleekmjag

namespace Go.Proofs.Ytanbbkoleekmjag

/-- what striking has made of the first i -/
structure Dd (Z : List Int) (i k : Nat) (X : List Int) : Prop where
  hi : i ≤ Z.length
  hk : k ≤ i
  len : X.length = Z.length
  rest : ∀ j, i ≤ j → X[j]? = Z[j]?
  inc : (X.take k).Pairwise (· < ·)
  mem : ∀ x, x ∈ X.take k ↔ x ∈ Z.take i
  last : 0 < i → 0 < k ∧ X[k - 1]? = Z[i - 1]?

theorem dd_start (Z : List Int) : Dd Z 0 0 Z :=
  ⟨Nat.zero_le _, Nat.le_refl _, rfl, fun _ _ => rfl, by simp, fun x => by simp, fun h => absurd h (Nat.lt_irrefl _)⟩

theorem mem_take_lt {Z : List Int} {i : Nat} {x : Int} (h : x ∈ Z.take i) : ∃ j, j < i ∧ Z[j]? = some x := by
  obtain ⟨j, hj, e⟩ := List.getElem_of_mem h
  rw [List.length_take] at hj
  rw [List.getElem_take] at e
  exact ⟨j, by omega, by rw [List.getElem?_eq_getElem (by omega), e]⟩

theorem dd_put {Z X : List Int} {i k : Nat} (hlt : i < Z.length) (S : Dd Z i k X) (hs : Z.Pairwise (· ≤ ·)) (hn : ∀ y, 0 < i → X[k - 1]? = some y → Z[i] ≠ y) : Dd Z (i + 1) (k + 1) (X.set k Z[i]) := by
  have hk := S.hk
  have hlen := S.len
  have hX : (X.set k Z[i]).take (k + 1) = X.take k ++ [Z[i]] := by
    rw [take_succ_get _ k (by rw [List.length_set]; omega), List.take_set_of_le (Nat.le_refl _)]
    simp
  have hZ := take_succ_get Z i hlt
  have hlow : ∀ x ∈ X.take k, x < Z[i] := by
    intro x hx
    obtain ⟨j, hj, e⟩ := mem_take_lt ((S.mem x).1 hx)
    obtain ⟨hk0, hl⟩ := S.last (by omega)
    obtain ⟨hjl, e⟩ := List.getElem?_eq_some_iff.1 e
    have hi1 : i - 1 < Z.length := by omega
    rw [List.getElem?_eq_getElem hi1] at hl
    have h1 := hn _ (by omega) hl
    rw [List.pairwise_iff_getElem] at hs
    have h2 := hs (i - 1) i hi1 hlt (by omega)
    have h3 : Z[j] ≤ Z[i - 1] := by
      by_cases e' : j = i - 1
      · subst e'; exact Int.le_refl _
      · exact hs j (i - 1) hjl hi1 (by omega)
    omega
  refine ⟨by omega, by omega, by rw [List.length_set]; exact hlen, fun j hj => ?_, ?_, fun x => ?_, fun _ => ⟨by omega, ?_⟩⟩
  · rw [List.getElem?_set_ne (by omega)]; exact S.rest j (by omega)
  · rw [hX, List.pairwise_append]
    exact ⟨S.inc, List.pairwise_singleton _ _, fun a ha b hb => by simp at hb; subst hb; exact hlow a ha⟩
  · rw [hX, hZ, List.mem_append, List.mem_append, S.mem x]
  · simp only [Nat.add_sub_cancel]
    rw [List.getElem?_set_self (by omega), List.getElem?_eq_getElem hlt]

theorem dd_same {Z X : List Int} {i k : Nat} {y : Int} (hlt : i < Z.length) (S : Dd Z i k X) (h0 : 0 < i) (hy : X[k - 1]? = some y) (he : Z[i] = y) : Dd Z (i + 1) k X := by
  obtain ⟨hk0, hl⟩ := S.last h0
  have hZ := take_succ_get Z i hlt
  refine ⟨by omega, by have := S.hk; omega, S.len, fun j hj => S.rest j (by omega), S.inc, fun x => ?_, fun _ => ⟨hk0, ?_⟩⟩
  · rw [hZ, List.mem_append, S.mem x]
    constructor
    · intro h; exact .inl h
    · rintro (h | h)
      · exact h
      · simp only [List.mem_singleton] at h
        rw [← S.mem x, h, he]
        have hk1 := (List.getElem?_eq_some_iff.1 hy).1
        have : X[k - 1]? = (X.take k)[k - 1]? := by rw [List.getElem?_take_of_lt (by omega)]
        rw [this] at hy
        exact List.mem_of_getElem? hy
  · rw [hy, Nat.add_sub_cancel, List.getElem?_eq_getElem hlt, he]

/-- numbers in order, each once -/
structure Ordered (A S : List Int) : Prop where
  inc : S.Pairwise (· < ·)
  mem : ∀ x, x ∈ S ↔ x ∈ A
  len : S.length ≤ A.length

theorem ordered_of_dd {A Z X : List Int} {k : Nat} (hp : Z.Perm A) (S : Dd Z Z.length k X) : Ordered A (X.take k) := by
  refine ⟨S.inc, fun x => ?_, ?_⟩
  · rw [S.mem x, List.take_length]; exact hp.mem_iff
  · have h1 := S.hk
    have h2 := hp.length_eq
    rw [List.length_take]; omega

end Go.Proofs.Ytanbbkoleekmjag

namespace Go.Proofs.Ytanbbkoleekmjag

/-- the numbers of a piece are near -/
def NearP (p : Int × Int × Int) : Prop := nearB p.1 ∧ nearB p.2.1 ∧ nearB p.2.2
/-- a piece may stand behind another one -/
def Fol (a p : Int × Int × Int) : Prop := a.2.1 < p.1 ∨ (a.2.1 = p.1 ∧ a.2.2 ≠ p.2.2)
def folB (a p : Int × Int × Int) : Bool := decide (a.2.1 < p.1) || (a.2.1 == p.1 && a.2.2 != p.2.2)
theorem folB_iff (a p : Int × Int × Int) : folB a p = true ↔ Fol a p := by
  unfold folB Fol
  simp only [Bool.or_eq_true, Bool.and_eq_true, decide_eq_true_eq, beq_iff_eq, bne_iff_ne]
/-- what is asked of the piece at place i -/
def Sound (m : List (Int × Int × Int)) (i : Nat) : Prop := NearP (m.getD i (0, 0, 0)) ∧ (m.getD i (0, 0, 0)).1 < (m.getD i (0, 0, 0)).2.1 ∧ (0 < i → Fol (m.getD (i - 1) (0, 0, 0)) (m.getD i (0, 0, 0)))
/-- the first k pieces are as they must be -/
def MGood (m : List (Int × Int × Int)) (k : Nat) : Prop := ∀ i, i < k → Sound m i
def mgoodDec (m : List (Int × Int × Int)) (k : Nat) : Decidable (MGood m k) := by unfold MGood Sound NearP Fol nearB; infer_instance
/-- what Check answers -/
def mchk (m : List (Int × Int × Int)) : Int := if 200 < m.length then 2 else @ite Int (MGood m m.length) (mgoodDec m m.length) 0 5

theorem mgood_succ {m : List (Int × Int × Int)} {k : Nat} (h : MGood m k) (h1 : Sound m k) : MGood m (k + 1) := by
  intro i hi
  by_cases e : i = k
  · subst e; exact h1
  · exact h i (by omega)
theorem mchk_large {m : List (Int × Int × Int)} (h : 200 < m.length) : mchk m = 2 := by simp [mchk, h]
theorem mchk_ok {m : List (Int × Int × Int)} (h : m.length ≤ 200) (hn : MGood m m.length) : mchk m = 0 := by
  unfold mchk; rw [if_neg (by omega), if_pos hn]
theorem mchk_no {m : List (Int × Int × Int)} {k : Nat} (h : m.length ≤ 200) (hk : k < m.length) (hn : ¬ Sound m k) : mchk m = 5 := by
  unfold mchk; rw [if_neg (by omega), if_neg (fun hh => hn (hh k hk))]
theorem mchk_cases (m : List (Int × Int × Int)) : mchk m = 2 ∨ mchk m = 5 ∨ (mchk m = 0 ∧ m.length ≤ 200 ∧ MGood m m.length) := by
  unfold mchk
  by_cases h : 200 < m.length
  · exact .inl (by rw [if_pos h])
  · rw [if_neg h]
    by_cases hn : MGood m m.length
    · exact .inr (.inr ⟨by rw [if_pos hn], by omega, hn⟩)
    · exact .inr (.inl (by rw [if_neg hn]))

/-- does the piece have the time? -/
def inP (p : Int × Int × Int) (t : Int) : Bool := decide (p.1 ≤ t) && decide (t < p.2.1)
theorem inP_iff (p : Int × Int × Int) (t : Int) : inP p t = true ↔ p.1 ≤ t ∧ t < p.2.1 := by unfold inP; simp only [Bool.and_eq_true, decide_eq_true_eq]
/-- what a list tells at a time -/
def tel : List (Int × Int × Int) → Int → Option Int
  | [], _ => none
  | p :: m, t => if inP p t then some p.2.2 else tel m t
theorem tel_nil (t : Int) : tel [] t = none := rfl
theorem tel_cons (p : Int × Int × Int) (m : List (Int × Int × Int)) (t : Int) : tel (p :: m) t = if inP p t then some p.2.2 else tel m t := rfl
theorem tel_append (a b : List (Int × Int × Int)) (t : Int) : tel (a ++ b) t = (tel a t).or (tel b t) := by
  induction a with
  | nil => rfl
  | cons p a ih =>
    rw [List.cons_append, tel_cons, tel_cons, ih]
    split <;> rfl
theorem tel_take_no {m : List (Int × Int × Int)} {k : Nat} {t : Int} (hk : k < m.length) (h : tel (m.take k) t = none) (hn : inP m[k] t = false) : tel (m.take (k + 1)) t = none := by
  rw [take_succ_get m k hk, tel_append, h, tel_cons, hn]; rfl
theorem tel_take_yes {m : List (Int × Int × Int)} {k : Nat} {t : Int} (hk : k < m.length) (h : tel (m.take k) t = none) (hn : inP m[k] t = true) : tel m t = some m[k].2.2 := by
  have e : m = m.take k ++ m[k] :: m.drop (k + 1) := by rw [List.getElem_cons_drop, List.take_append_drop]
  have e2 : tel m t = tel (m.take k ++ m[k] :: m.drop (k + 1)) t := congrArg (tel · t) e
  rw [e2, tel_append, h, tel_cons, hn]; rfl
theorem tel_mem {m : List (Int × Int × Int)} {t v : Int} (h : tel m t = some v) : ∃ p ∈ m, inP p t = true ∧ p.2.2 = v := by
  induction m with
  | nil => cases h
  | cons p m ih =>
    rw [tel_cons] at h
    split at h
    · rename_i hp; cases h; exact ⟨p, by simp, hp, rfl⟩
    · obtain ⟨q, hq, h1⟩ := ih h
      exact ⟨q, by simp [hq], h1⟩
theorem tel_none {m : List (Int × Int × Int)} {t : Int} (h : ∀ p ∈ m, inP p t = false) : tel m t = none := by
  induction m with
  | nil => rfl
  | cons p m ih =>
    rw [tel_cons, h p (by simp), ih fun q hq => h q (by simp [hq])]; rfl

/-- a map: the pieces rise, and those that touch differ -/
def MCan : List (Int × Int × Int) → Prop
  | [] => True
  | p :: m => p.1 < p.2.1 ∧ (∀ q, m.head? = some q → Fol p q) ∧ MCan m

theorem mcan_low {p : Int × Int × Int} {m : List (Int × Int × Int)} (h : MCan (p :: m)) : ∀ q ∈ m, p.2.1 ≤ q.1 := by
  induction m generalizing p with
  | nil => intro q hq; cases hq
  | cons r m ih =>
    intro q hq
    obtain ⟨h1, h2, h3⟩ := h
    have h4 := h2 r rfl
    have h5 := h3.1
    rcases List.mem_cons.1 hq with e | hq
    · subst e; rcases h4 with h4 | h4
      · omega
      · omega
    · have := ih h3 q hq
      rcases h4 with h4 | h4 <;> omega
theorem mcan_pos {m : List (Int × Int × Int)} (h : MCan m) : ∀ q ∈ m, q.1 < q.2.1 := by
  induction m with
  | nil => intro q hq; cases hq
  | cons r m ih =>
    intro q hq
    rcases List.mem_cons.1 hq with e | hq
    · subst e; exact h.1
    · exact ih h.2.2 q hq
theorem tel_before {m : List (Int × Int × Int)} {t : Int} (h : ∀ q ∈ m, t < q.1) : tel m t = none :=
  tel_none fun p hp => by have := h p hp; unfold inP; simp only [Bool.and_eq_false_iff, decide_eq_false_iff_not]; omega
theorem tel_first {p : Int × Int × Int} {m : List (Int × Int × Int)} {t : Int} (h1 : p.1 ≤ t) (h2 : t < p.2.1) : tel (p :: m) t = some p.2.2 := by
  rw [tel_cons, if_pos ((inP_iff p t).2 ⟨h1, h2⟩)]
theorem tel_later {p : Int × Int × Int} {m : List (Int × Int × Int)} {t : Int} (h : p.2.1 ≤ t) : tel (p :: m) t = tel m t := by
  rw [tel_cons, if_neg (fun hh => by have := (inP_iff p t).1 hh; omega)]

theorem mcan_end {p q : Int × Int × Int} {a b : List (Int × Int × Int)} (ha : MCan (p :: a)) (_hb : MCan (q :: b)) (h : ∀ t, tel (p :: a) t = tel (q :: b) t) (h1 : p.1 = q.1) (h2 : p.2.2 = q.2.2) (hlt : p.2.1 < q.2.1) : False := by
  have hp := ha.1
  have e := h p.2.1
  rw [tel_later (Int.le_refl _), tel_first (p := q) (by omega) hlt] at e
  cases a with
  | nil => cases e
  | cons r a =>
    have hf := ha.2.1 r rfl
    have hr := ha.2.2.1
    rcases hf with hf | ⟨hf, hv⟩
    · rw [tel_before (fun s hs => ?_)] at e
      · cases e
      · rcases List.mem_cons.1 hs with e' | hs
        · subst e'; exact hf
        · have := mcan_low ha.2.2 s hs; omega
    · rw [tel_first (p := r) (by omega) (by omega), Option.some.injEq] at e
      exact hv (by omega)

/-- two maps that tell the same are one list -/
theorem mcan_unique {a b : List (Int × Int × Int)} (ha : MCan a) (hb : MCan b) (h : ∀ t, tel a t = tel b t) : a = b := by
  induction a generalizing b with
  | nil =>
    cases b with
    | nil => rfl
    | cons q b =>
      have := h q.1
      rw [tel_first (Int.le_refl _) hb.1] at this
      cases this
  | cons p a ih =>
    cases b with
    | nil =>
      have := h p.1
      rw [tel_first (Int.le_refl _) ha.1] at this
      cases this
    | cons q b =>
      have hp := ha.1
      have hq := hb.1
      have la := mcan_low ha
      have lb := mcan_low hb
      have h1 : p.1 = q.1 := by
        rcases Int.lt_trichotomy p.1 q.1 with hc | hc | hc
        · have := h p.1
          rw [tel_first (Int.le_refl _) hp, tel_before (fun s hs => ?_)] at this
          · cases this
          · rcases List.mem_cons.1 hs with e | hs
            · subst e; exact hc
            · have := lb s hs; omega
        · exact hc
        · have := h q.1
          rw [tel_first (p := q) (Int.le_refl _) hq, tel_before (fun s hs => ?_)] at this
          · cases this
          · rcases List.mem_cons.1 hs with e | hs
            · subst e; exact hc
            · have := la s hs; omega
      have h2 : p.2.2 = q.2.2 := by
        have := h p.1
        rw [tel_first (Int.le_refl _) hp, tel_first (p := q) (by omega) (by omega), Option.some.injEq] at this
        exact this
      have h3 : p.2.1 = q.2.1 := by
        rcases Int.lt_trichotomy p.2.1 q.2.1 with hc | hc | hc
        · exact (mcan_end ha hb h h1 h2 hc).elim
        · exact hc
        · exact (mcan_end hb ha (fun t => (h t).symm) h1.symm h2.symm hc).elim
      have e : p = q := Prod.ext h1 (Prod.ext h3 h2)
      subst e
      rw [ih ha.2.2 hb.2.2 fun t => ?_]
      by_cases ht : p.2.1 ≤ t
      · have := h t
        rwa [tel_later ht, tel_later ht] at this
      · rw [tel_before (fun s hs => by have := la s hs; omega), tel_before (fun s hs => by have := lb s hs; omega)]

theorem mcan_snoc {o : List (Int × Int × Int)} {p : Int × Int × Int} : MCan (o ++ [p]) ↔ MCan o ∧ p.1 < p.2.1 ∧ ∀ q, o.getLast? = some q → Fol q p := by
  induction o with
  | nil => simp [MCan]
  | cons r o ih =>
    rw [List.cons_append, MCan, MCan, ih]
    cases o with
    | nil => simp [MCan, and_comm]
    | cons s o =>
      simp only [List.cons_append, List.head?_cons, List.getLast?_cons_cons]
      constructor
      · rintro ⟨h1, h2, h3, h4, h5⟩; exact ⟨⟨h1, h2, h3⟩, h4, h5⟩
      · rintro ⟨⟨h1, h2, h3⟩, h4, h5⟩; exact ⟨h1, h2, h3, h4, h5⟩

theorem mcan_take_of_good {m : List (Int × Int × Int)} (h : MGood m m.length) (k : Nat) (hk : k ≤ m.length) : MCan (m.take k) := by
  induction k with
  | zero => simp [MCan]
  | succ k ih =>
    have hlt : k < m.length := by omega
    have hs := h k hlt
    have hg : m.getD k (0, 0, 0) = m[k] := by simp [List.getD_eq_getElem?_getD, List.getElem?_eq_getElem hlt]
    rw [take_succ_get m k hlt, mcan_snoc]
    refine ⟨ih (by omega), by have := hs.2.1; rwa [hg] at this, fun q hq => ?_⟩
    have h0 : 0 < k := by
      rcases Nat.eq_zero_or_pos k with e | e
      · subst e; simp at hq
      · exact e
    have h2 := hs.2.2 h0
    rw [hg] at h2
    rw [List.getLast?_eq_getElem?, List.length_take, Nat.min_eq_left (by omega), List.getElem?_take_of_lt (by omega), List.getElem?_eq_getElem (by omega)] at hq
    cases hq
    rw [List.getD_eq_getElem?_getD, List.getElem?_eq_getElem (by omega)] at h2
    exact h2
theorem mcan_of_good {m : List (Int × Int × Int)} (h : MGood m m.length) : MCan m := by
  have := mcan_take_of_good h m.length (Nat.le_refl _)
  rwa [List.take_length] at this
theorem near_of_good {m : List (Int × Int × Int)} (h : MGood m m.length) : ∀ p ∈ m, NearP p := by
  intro p hp
  obtain ⟨j, hj, rfl⟩ := List.getElem_of_mem hp
  have := (h j hj).1
  rwa [List.getD_eq_getElem?_getD, List.getElem?_eq_getElem hj] at this
theorem good_of_mcan {m : List (Int × Int × Int)} (hc : MCan m) (hn : ∀ p ∈ m, NearP p) : MGood m m.length := by
  intro i hi
  have hg : m.getD i (0, 0, 0) = m[i] := by simp [List.getD_eq_getElem?_getD, List.getElem?_eq_getElem hi]
  unfold Sound
  rw [hg]
  refine ⟨hn _ (List.getElem_mem hi), mcan_pos hc _ (List.getElem_mem hi), fun h0 => ?_⟩
  obtain ⟨j, rfl⟩ : ∃ j, i = j + 1 := ⟨i - 1, by omega⟩
  have e : m = m.take (j + 1) ++ m[j + 1] :: m.drop (j + 1 + 1) := by rw [List.getElem_cons_drop, List.take_append_drop]
  have key : ∀ (o r : List (Int × Int × Int)) (p : Int × Int × Int), MCan (o ++ p :: r) → ∀ q, o.getLast? = some q → Fol q p := by
    intro o
    induction o with
    | nil => intro r p _ q hq; simp at hq
    | cons s o ih =>
      intro r p hm q hq
      rw [List.cons_append] at hm
      cases o with
      | nil => simp at hq; subst hq; exact hm.2.1 p rfl
      | cons u o => exact ih r p hm.2.2 q (by simpa using hq)
  have hc' := hc
  rw [e] at hc'
  refine key _ _ _ hc' _ ?_
  rw [List.getLast?_eq_getElem?, List.length_take, Nat.min_eq_left (by omega), List.getElem?_take_of_lt (by omega), Nat.add_sub_cancel, List.getD_eq_getElem?_getD, List.getElem?_eq_getElem (by omega)]
  rfl
theorem mchk_of_mcan {m : List (Int × Int × Int)} (hc : MCan m) (hn : ∀ p ∈ m, NearP p) (hl : m.length ≤ 200) : mchk m = 0 := mchk_ok hl (good_of_mcan hc hn)

/-- all ends of the pieces, in order -/
def turnsOf (m : List (Int × Int × Int)) : List Int := m.flatMap fun p => [p.1, p.2.1]
theorem turnsOf_length (m : List (Int × Int × Int)) : (turnsOf m).length = 2 * m.length := by
  induction m with
  | nil => rfl
  | cons p m ih => simp only [turnsOf, List.flatMap_cons, List.length_append, List.length_cons, List.length_nil] at ih ⊢; omega
theorem turnsOf_succ (m : List (Int × Int × Int)) (k : Nat) (hk : k < m.length) : turnsOf (m.take (k + 1)) = turnsOf (m.take k) ++ [m[k].1, m[k].2.1] := by
  rw [take_succ_get m k hk]; unfold turnsOf; rw [List.flatMap_append]; rfl
theorem turnsOf_mem {m : List (Int × Int × Int)} {x : Int} (h : x ∈ turnsOf m) : ∃ p ∈ m, x = p.1 ∨ x = p.2.1 := by
  unfold turnsOf at h
  rw [List.mem_flatMap] at h
  obtain ⟨p, hp, hx⟩ := h
  simp at hx
  exact ⟨p, hp, hx⟩
theorem mem_turnsOf {m : List (Int × Int × Int)} {p : Int × Int × Int} (h : p ∈ m) : p.1 ∈ turnsOf m ∧ p.2.1 ∈ turnsOf m := by
  unfold turnsOf
  exact ⟨List.mem_flatMap.2 ⟨p, h, by simp⟩, List.mem_flatMap.2 ⟨p, h, by simp⟩⟩

/-- what of the first i stretches has the time, tells -/
def mseg (S : List Int) (f : Int → Option Int) (i : Nat) (t : Int) : Option Int := (List.range i).findSome? fun k => if S.getD k 0 ≤ t ∧ t < S.getD (k + 1) 0 then f (S.getD k 0) else none
theorem mseg_succ (S : List Int) (f : Int → Option Int) (i : Nat) (t : Int) : mseg S f (i + 1) t = (mseg S f i t).or (if S.getD i 0 ≤ t ∧ t < S.getD (i + 1) 0 then f (S.getD i 0) else none) := by
  unfold mseg
  rw [List.range_succ, List.findSome?_append]
  congr 1
  simp only [List.findSome?_cons, List.findSome?_nil]
  split <;> simp_all

/-- what has been made of the first i stretches -/
structure Tl (S : List Int) (f : Int → Option Int) (i : Nat) (out : List (Int × Int × Int)) : Prop where
  canon : MCan out
  pts : ∀ t, tel out t = mseg S f i t
  last : ∀ q, out.getLast? = some q → ∃ j, j ≤ i ∧ S[j]? = some q.2.1
  len : out.length ≤ i
  mem : ∀ q ∈ out, q.1 ∈ S ∧ q.2.1 ∈ S ∧ ∃ s ∈ S, f s = some q.2.2

theorem tl_start (S : List Int) (f : Int → Option Int) : Tl S f 0 [] :=
  ⟨trivial, fun _ => rfl, fun q h => by simp at h, Nat.le_refl _, fun x h => by simp at h⟩

theorem getD_get' {S : List Int} {i : Nat} (h : i < S.length) : S.getD i 0 = S[i] := by simp [List.getD_eq_getElem?_getD, h]

theorem tl_skip {S : List Int} {f : Int → Option Int} {i : Nat} {out : List (Int × Int × Int)} (hi : i + 1 < S.length) (T : Tl S f i out) (hp : f S[i] = none) : Tl S f (i + 1) out := by
  refine ⟨T.canon, fun t => ?_, fun q h => ?_, by have := T.len; omega, T.mem⟩
  · rw [mseg_succ, getD_get' (by omega), hp, T.pts]; simp
  · obtain ⟨j, hj, e⟩ := T.last q h
    exact ⟨j, by omega, e⟩

theorem tl_last_le {S : List Int} {f : Int → Option Int} {i : Nat} {out : List (Int × Int × Int)} (hi : i + 1 < S.length) (hS : S.Pairwise (· < ·)) (T : Tl S f i out) {q : Int × Int × Int} (h : out.getLast? = some q) : q.2.1 ≤ S[i] := by
  rw [List.pairwise_iff_getElem] at hS
  obtain ⟨j, hj, ej⟩ := T.last q h
  obtain ⟨hjl, ej⟩ := List.getElem?_eq_some_iff.1 ej
  by_cases hji : j = i
  · subst hji; omega
  · have := hS j i hjl (by omega) (by omega); omega

theorem tl_put {S : List Int} {f : Int → Option Int} {i : Nat} {v : Int} {out : List (Int × Int × Int)} (hi : i + 1 < S.length) (hS : S.Pairwise (· < ·)) (T : Tl S f i out) (hp : f S[i] = some v) (hn : ∀ q, out.getLast? = some q → Fol q (S[i], S[i + 1], v)) : Tl S f (i + 1) (out ++ [(S[i], S[i + 1], v)]) := by
  have hS' := hS
  rw [List.pairwise_iff_getElem] at hS'
  have h01 := hS' i (i + 1) (by omega) hi (by omega)
  refine ⟨?_, fun t => ?_, fun q h => ?_, ?_, fun x hx => ?_⟩
  · rw [mcan_snoc]
    exact ⟨T.canon, h01, hn⟩
  · rw [mseg_succ, tel_append, T.pts, getD_get' (by omega : i < S.length), getD_get' hi, hp, tel_cons, tel_nil]
    congr 1
    simp only [inP, Bool.and_eq_true, decide_eq_true_eq]
  · simp at h
    subst h
    exact ⟨i + 1, Nat.le_refl _, List.getElem?_eq_getElem hi⟩
  · have := T.len; simp only [List.length_append, List.length_singleton]; omega
  · rw [List.mem_append] at hx
    rcases hx with hx | hx
    · exact T.mem x hx
    · simp only [List.mem_singleton] at hx
      subst hx
      exact ⟨List.getElem_mem _, List.getElem_mem _, S[i], List.getElem_mem _, hp⟩

theorem tl_more {S : List Int} {f : Int → Option Int} {i : Nat} {v : Int} {o : List (Int × Int × Int)} {q : Int × Int × Int} (hi : i + 1 < S.length) (hS : S.Pairwise (· < ·)) (T : Tl S f i (o ++ [q])) (hp : f S[i] = some v) (hn : q.2.1 = S[i]) (hv : q.2.2 = v) : Tl S f (i + 1) (o ++ [(q.1, S[i + 1], q.2.2)]) := by
  rw [List.pairwise_iff_getElem] at hS
  have h01 := hS i (i + 1) (by omega) hi (by omega)
  have hc := T.canon
  rw [mcan_snoc] at hc
  have hqq := hc.2.1
  refine ⟨?_, fun t => ?_, fun r h => ?_, ?_, fun x hx => ?_⟩
  · rw [mcan_snoc]
    exact ⟨hc.1, by simp only; omega, fun r hr => hc.2.2 r hr⟩
  · rw [mseg_succ, tel_append, ← T.pts, tel_append, getD_get' (by omega : i < S.length), getD_get' hi, hp, Option.or_assoc]
    congr 1
    rw [tel_cons, tel_cons, tel_nil]
    by_cases h1 : inP q t = true
    · have h2 : inP (q.1, S[i + 1], q.2.2) t = true := by rw [inP_iff] at h1 ⊢; simp only; omega
      rw [if_pos h1, if_pos h2]; rfl
    · rw [if_neg h1]
      by_cases h2 : inP (q.1, S[i + 1], q.2.2) t = true
      · rw [if_pos h2, if_pos (by rw [inP_iff] at h1 h2; simp only at h2; omega), ← hv]; rfl
      · rw [if_neg h2, if_neg (by rw [inP_iff] at h1 h2; simp only at h2; omega)]; rfl
  · simp at h
    subst h
    exact ⟨i + 1, Nat.le_refl _, List.getElem?_eq_getElem hi⟩
  · have := T.len; simp only [List.length_append, List.length_singleton] at this ⊢; omega
  · have hm := T.mem
    rw [List.mem_append] at hx
    rcases hx with hx | hx
    · exact hm x (by simp [hx])
    · simp only [List.mem_singleton] at hx
      subst hx
      have := hm q (by simp)
      exact ⟨this.1, List.getElem_mem _, this.2.2⟩

theorem inc_mem_unique {R S : List Int} (hR : R.Pairwise (· < ·)) (hS : S.Pairwise (· < ·)) (h : ∀ x, x ∈ R ↔ x ∈ S) : R = S := by
  induction R generalizing S with
  | nil =>
    cases S with
    | nil => rfl
    | cons y S => exact absurd ((h y).2 (by simp)) (by simp)
  | cons x R ih =>
    cases S with
    | nil => exact absurd ((h x).1 (by simp)) (by simp)
    | cons y S =>
      rw [List.pairwise_cons] at hR hS
      have e : x = y := by
        have h1 := (h x).1 (by simp)
        have h2 := (h y).2 (by simp)
        rcases List.mem_cons.1 h1 with e | h1
        · exact e
        · rcases List.mem_cons.1 h2 with e | h2
          · exact e.symm
          · have := hS.1 x h1; have := hR.1 y h2; omega
      subst e
      rw [ih hR.2 hS.2 fun z => ?_]
      have hz := h z
      simp only [List.mem_cons] at hz
      constructor
      · intro hm
        rcases hz.1 (.inr hm) with e | h
        · subst e; have := hR.1 z hm; omega
        · exact h
      · intro hm
        rcases hz.2 (.inr hm) with e | h
        · subst e; have := hS.1 z hm; omega
        · exact h

theorem tl_unique {A S S' : List Int} {f : Int → Option Int} {o o' : List (Int × Int × Int)} (h : Ordered A S) (h' : Ordered A S') (T : Tl S f (S.length - 1) o) (T' : Tl S' f (S'.length - 1) o') : o = o' := by
  have e : S = S' := inc_mem_unique h.inc h'.inc fun x => (h.mem x).trans (h'.mem x).symm
  subst e
  exact mcan_unique T.canon T'.canon fun t => by rw [T.pts, T'.pts]

/-- what is told: the error n with nothing, or a map -/
def MapIs (A : List Int) (f : Int → Option Int) (n : Int) (r : List (Int × Int × Int)) : Prop :=
  ∃ S out, Ordered A S ∧ Tl S f (S.length - 1) out ∧ ((¬ (∀ q ∈ out, NearP q) ∧ n = 5 ∧ r = []) ∨ ((∀ q ∈ out, NearP q) ∧ 200 < out.length ∧ n = 2 ∧ r = []) ∨ ((∀ q ∈ out, NearP q) ∧ out.length ≤ 200 ∧ n = 0 ∧ r = out))

theorem mapIs_unique {A : List Int} {f : Int → Option Int} {n n' : Int} {r r' : List (Int × Int × Int)} (h : MapIs A f n r) (h' : MapIs A f n' r') : n = n' ∧ r = r' := by
  obtain ⟨S, o, hO, hT, h⟩ := h
  obtain ⟨S', o', hO', hT', h'⟩ := h'
  have e := tl_unique hO hO' hT hT'
  subst e
  rcases h with ⟨a, h1, h2⟩ | ⟨a, b, h1, h2⟩ | ⟨a, b, h1, h2⟩
  · rcases h' with ⟨a', h1', h2'⟩ | ⟨a', b', h1', h2'⟩ | ⟨a', b', h1', h2'⟩
    · exact ⟨h1.trans h1'.symm, h2.trans h2'.symm⟩
    · exact absurd a' a
    · exact absurd a' a
  · rcases h' with ⟨a', h1', h2'⟩ | ⟨a', b', h1', h2'⟩ | ⟨a', b', h1', h2'⟩
    · exact absurd a a'
    · exact ⟨h1.trans h1'.symm, h2.trans h2'.symm⟩
    · omega
  · rcases h' with ⟨a', h1', h2'⟩ | ⟨a', b', h1', h2'⟩ | ⟨a', b', h1', h2'⟩
    · exact absurd a a'
    · omega
    · exact ⟨h1.trans h1'.symm, h2.trans h2'.symm⟩

end Go.Proofs.Ytanbbkoleekmjag

namespace Go.Proofs.Ytanbbkoleekmjag
open Go.RowKit

theorem ptw {a b c : World} (h1 : Below a.heap.size a b) (h2 : Below b.heap.size b c) : Below a.heap.size a c := h1.trans (h2.mono h1.size)
theorem pal (w : World) (o : Obj) : Below w.heap.size w (w.alloc o) := (Below.refl _ _).alloc (Nat.le_refl _) o

/-- the pieces of m lie at ao, three cells each -/
def PcAt (w : World) (ao : Option Addr) (m : List (Int × Int × Int)) : Prop :=
  m = [] ∨ ∃ b off, ao = some ⟨b, off, none⟩ ∧ b < w.heap.size ∧ ∀ j, j < m.length → w.cell? ⟨b, off + j * 3, none⟩ = some (.int .i64 (m.getD j (0, 0, 0)).1) ∧ w.cell? ⟨b, off + j * 3 + 1, none⟩ = some (.int .i64 (m.getD j (0, 0, 0)).2.1) ∧ w.cell? ⟨b, off + j * 3 + 2, none⟩ = some (.int .i64 (m.getD j (0, 0, 0)).2.2)

theorem PcAt.below {w w' : World} {ao : Option Addr} {m : List (Int × Int × Int)} (h : PcAt w ao m) (hb : Below w.heap.size w w') : PcAt w' ao m := by
  rcases h with h | ⟨b, off, rfl, hlt, hc⟩
  · exact .inl h
  · refine .inr ⟨b, off, rfl, Nat.lt_of_lt_of_le hlt hb.size, fun j hj => ?_⟩
    rw [hb.cell (p := ⟨b, off + j * 3, none⟩) hlt, hb.cell (p := ⟨b, off + j * 3 + 1, none⟩) hlt, hb.cell (p := ⟨b, off + j * 3 + 2, none⟩) hlt]
    exact hc j hj

theorem Try.infoPiece : (Try.prog.info? 39).map (fun i => (i.zero, i.size, i.bytes)) = some (some (.agg #[.int .i64 0, .int .i64 0, .int .i64 0]), 3, 24) := by kernel_rfl

/-- all numbers of the pieces, in order -/
def flat3 (m : List (Int × Int × Int)) : List Int := m.flatMap fun p => [p.1, p.2.1, p.2.2]
theorem flat3_cons (p : Int × Int × Int) (m : List (Int × Int × Int)) : flat3 (p :: m) = p.1 :: p.2.1 :: p.2.2 :: flat3 m := by simp [flat3]
theorem flat3_append (a b : List (Int × Int × Int)) : flat3 (a ++ b) = flat3 a ++ flat3 b := by simp [flat3]
theorem flat3_length (m : List (Int × Int × Int)) : (flat3 m).length = m.length * 3 := by
  induction m with
  | nil => rfl
  | cons p m ih => rw [flat3_cons]; simp only [List.length_cons, ih]; omega
theorem flat3_getD (m : List (Int × Int × Int)) (j : Nat) (h : j < m.length) : (flat3 m)[j * 3]? = some (m.getD j (0, 0, 0)).1 ∧ (flat3 m)[j * 3 + 1]? = some (m.getD j (0, 0, 0)).2.1 ∧ (flat3 m)[j * 3 + 2]? = some (m.getD j (0, 0, 0)).2.2 := by
  induction m generalizing j with
  | nil => simp at h
  | cons p m ih =>
    rw [flat3_cons]
    cases j with
    | zero => exact ⟨rfl, rfl, rfl⟩
    | succ j =>
      have := ih j (by simpa using h)
      rw [show (j + 1) * 3 = j * 3 + 1 + 1 + 1 by omega]
      simpa using this

/-- the cells of pieces -/
def enc3 (m : List (Int × Int × Int)) : List Value := (flat3 m).map (Value.int .i64)
theorem enc3_append (a b : List (Int × Int × Int)) : enc3 (a ++ b) = enc3 a ++ enc3 b := by unfold enc3; rw [flat3_append, List.map_append]
theorem enc3_length (m : List (Int × Int × Int)) : (enc3 m).length = m.length * 3 := by unfold enc3; rw [List.length_map, flat3_length]

/-- what a row of pieces that the call owns holds -/
theorem pcAt_of_owns {w : World} {base e : Nat} {v : Value} {n : Nat} {m : List (Int × Int × Int)} (h : w.ownsRow base e 3 v n (enc3 m)) : ∃ ao cap, v = .slice ao m.length cap ∧ PcAt w ao m := by
  obtain ⟨h1, h2⟩ := h
  simp only [enc3_length] at h1
  have hn : n = m.length := by omega
  subst hn
  rcases h2 with ⟨rfl, h0⟩ | ⟨g, cap, cur, rfl, hb, hh, h3, h4, h5, h6⟩
  · exact ⟨none, 0, by rw [h0], .inl (List.eq_nil_of_length_eq_zero h0)⟩
  · have hown : w.ownsRow base e 3 (.slice (some ⟨g, 0, none⟩) m.length cap) m.length (enc3 m) := ⟨by simp [enc3_length], .inr ⟨g, cap, cur, rfl, hb, hh, h3, h4, h5, h6⟩⟩
    refine ⟨_, cap, rfl, .inr ⟨g, 0, rfl, (Array.getElem?_eq_some_iff.1 hh).1, fun j hj => ?_⟩⟩
    obtain ⟨f0, f1, f2⟩ := flat3_getD m j hj
    rw [Nat.zero_add, hown.cellAt (j * 3) (by omega), hown.cellAt (j * 3 + 1) (by omega), hown.cellAt (j * 3 + 2) (by omega)]
    simp only [enc3, List.getElem?_map, f0, f1, f2]
    exact ⟨rfl, rfl, rfl⟩

/-- three cells in a new block -/
theorem cells_three_new (w : World) (B : Nat) (t : TypeId) (x y z : Value) (hB : B = w.heap.size) : ∀ j u, [x, y, z][j]? = some u → (w.alloc (.cells #[x, y, z] t)).cell? ((⟨B, 0, none⟩ : Addr).add j) = some u := by
  subst hB
  intro j u hj
  match j, hj with
  | 0, hj => simp at hj; subst hj; simp [Addr.add]
  | 1, hj => simp at hj; subst hj; simp [Addr.add]
  | 2, hj => simp at hj; subst hj; simp [Addr.add]

/-- what a call that tells a map and an error hands back: a map in memory of its own -/
def Told3 (w w' : World) (e : Ending) (n : Int) (r : List (Int × Int × Int)) : Prop :=
  ∃ v, e = .returned (.tuple #[v, .int .i64 n]) ∧ w'.ownsRow w.heap.size 39 3 v r.length (enc3 r) ∧ Below w.heap.size w w'

end Go.Proofs.Ytanbbkoleekmjag

namespace Go.Proofs.Ytanbbkoleekmjag

/-- an arc: from, to, cost -/
abbrev Ac := Int × Int × Int
/-- what is told of a vertex -/
def vat (x : List Int) (v : Int) : Int := x.getD v.toNat 0

/-- numbers that no arc makes less, none above what is told at first -/
structure Adm (first : List Int) (arcs : List Ac) (p : Ac → Int) (y : Nat → Int) : Prop where
  le : ∀ v, v < first.length → y v ≤ first.getD v 0
  cl : ∀ a ∈ arcs, y a.2.1.toNat ≤ y a.1.toNat + p a
/-- what is told on the way -/
structure Mid (first : List Int) (arcs : List Ac) (p : Ac → Int) (x : List Int) : Prop where
  len : x.length = first.length
  le : ∀ v, v < first.length → x.getD v 0 ≤ first.getD v 0
  most : ∀ y, Adm first arcs p y → ∀ v, v < first.length → y v ≤ x.getD v 0
/-- what is told in the end -/
structure Best (first : List Int) (arcs : List Ac) (p : Ac → Int) (x : List Int) : Prop where
  mid : Mid first arcs p x
  cl : ∀ a ∈ arcs, vat x a.2.1 ≤ vat x a.1 + p a

theorem mid_start (first : List Int) (arcs : List Ac) (p : Ac → Int) : Mid first arcs p first := ⟨rfl, fun _ _ => Int.le_refl _, fun _ h v hv => h.le v hv⟩
theorem getD_set (x : List Int) (k v : Nat) (m : Int) (hk : k < x.length) : (x.set k m).getD v 0 = if v = k then m else x.getD v 0 := by
  simp only [List.getD_eq_getElem?_getD, List.getElem?_set]
  by_cases h : k = v
  · subst h; simp [hk]
  · have : ¬ v = k := fun e => h e.symm
    simp [h, this]
theorem mid_set {first : List Int} {arcs : List Ac} {p : Ac → Int} {x : List Int} {k : Nat} {m : Int} (h : Mid first arcs p x) (hk : k < first.length) (hm : m ≤ x.getD k 0) (ha : ∀ y, Adm first arcs p y → y k ≤ m) : Mid first arcs p (x.set k m) := by
  have hk' : k < x.length := by rw [h.len]; exact hk
  refine ⟨by rw [List.length_set]; exact h.len, fun v hv => ?_, fun y hy v hv => ?_⟩
  · rw [getD_set _ _ _ _ hk']
    by_cases e : v = k
    · rw [if_pos e]; subst e; exact Int.le_trans hm (h.le v hv)
    · rw [if_neg e]; exact h.le v hv
  · rw [getD_set _ _ _ _ hk']
    by_cases e : v = k
    · rw [if_pos e]; subst e; exact ha y hy
    · rw [if_neg e]; exact h.most y hy v hv
/-- an arc's ends are vertices -/
def EndsIn (n : Nat) (arcs : List Ac) : Prop := ∀ a ∈ arcs, 0 ≤ a.1 ∧ a.1 < n ∧ 0 ≤ a.2.1 ∧ a.2.1 < n
/-- what an arc tells is no less than what may be told -/
theorem mid_arc {first : List Int} {arcs : List Ac} {p : Ac → Int} {x : List Int} {a : Ac} (h : Mid first arcs p x) (ha : a ∈ arcs) (hE : EndsIn first.length arcs) : ∀ y, Adm first arcs p y → y a.2.1.toNat ≤ vat x a.1 + p a := by
  intro y hy
  have h1 := hy.cl a ha
  have h2 := h.most y hy a.1.toNat (by have := hE a ha; omega)
  unfold vat; omega
theorem best_le {first : List Int} {arcs : List Ac} {p : Ac → Int} {x x' : List Int} (h : Best first arcs p x) (h' : Mid first arcs p x') : ∀ v, v < first.length → x.getD v 0 ≤ x'.getD v 0 :=
  h'.most (fun v => x.getD v 0) ⟨h.mid.le, h.cl⟩
theorem best_unique {first : List Int} {arcs : List Ac} {p : Ac → Int} {x x' : List Int} (h : Best first arcs p x) (h' : Best first arcs p x') : x = x' := by
  apply List.ext_getElem (by rw [h.mid.len, h'.mid.len])
  intro i h1 h2
  have a := best_le h h'.mid i (by rw [← h.mid.len]; exact h1)
  have b := best_le h' h.mid i (by rw [← h.mid.len]; exact h1)
  simp only [List.getD_eq_getElem?_getD, List.getElem?_eq_getElem h1, List.getElem?_eq_getElem h2, Option.getD_some] at a b
  omega
/-- other arcs that tell the same -/
theorem best_arcs {first : List Int} {arcs arcs' : List Ac} {p p' : Ac → Int} {x : List Int} (h : Best first arcs p x) (hs : ∀ y : Nat → Int, (∀ a ∈ arcs, y a.2.1.toNat ≤ y a.1.toNat + p a) ↔ ∀ a ∈ arcs', y a.2.1.toNat ≤ y a.1.toNat + p' a) : Best first arcs' p' x :=
  ⟨⟨h.mid.len, h.mid.le, fun y hy => h.mid.most y ⟨hy.le, (hs y).2 hy.cl⟩⟩, (hs fun v => x.getD v 0).1 h.cl⟩
theorem mid_arcs {first : List Int} {arcs arcs' : List Ac} {p p' : Ac → Int} {x : List Int} (h : Mid first arcs p x) (hs : ∀ y : Nat → Int, (∀ a ∈ arcs, y a.2.1.toNat ≤ y a.1.toNat + p a) ↔ ∀ a ∈ arcs', y a.2.1.toNat ≤ y a.1.toNat + p' a) : Mid first arcs' p' x :=
  ⟨h.len, h.le, fun y hy => h.most y ⟨hy.le, (hs y).2 hy.cl⟩⟩

/-- numbers of a first row and prices that are fine -/
structure Fine (first : List Int) (arcs : List Ac) (p : Ac → Int) : Prop where
  lo : ∀ v, v < first.length → 0 ≤ first.getD v 0
  hi : ∀ v, v < first.length → first.getD v 0 ≤ 1099511627776
  pl : ∀ a ∈ arcs, 0 ≤ p a ∧ p a ≤ 1000
  en : EndsIn first.length arcs
theorem Mid.lo {first : List Int} {arcs : List Ac} {p : Ac → Int} {x : List Int} (h : Mid first arcs p x) (f : Fine first arcs p) (v : Nat) (hv : v < first.length) : 0 ≤ x.getD v 0 :=
  h.most (fun _ => 0) ⟨f.lo, fun a ha => by have := f.pl a ha; show (0 : Int) ≤ 0 + p a; omega⟩ v hv
theorem Mid.hi {first : List Int} {arcs : List Ac} {p : Ac → Int} {x : List Int} (h : Mid first arcs p x) (f : Fine first arcs p) (v : Nat) (hv : v < first.length) : x.getD v 0 ≤ 1099511627776 := Int.le_trans (h.le v hv) (f.hi v hv)
theorem Mid.bounds {first : List Int} {arcs : List Ac} {p : Ac → Int} {x : List Int} (h : Mid first arcs p x) (f : Fine first arcs p) : ∀ z ∈ x, 0 ≤ z ∧ z ≤ 1099511627776 := by
  intro z hz
  obtain ⟨i, hi, rfl⟩ := List.getElem_of_mem hz
  have a := h.lo f i (by rw [← h.len]; exact hi)
  have b := h.hi f i (by rw [← h.len]; exact hi)
  simp only [List.getD_eq_getElem?_getD, List.getElem?_eq_getElem hi, Option.getD_some] at a b
  exact ⟨a, b⟩

/-- how much there is in all -/
def msum : List Int → Nat
  | [] => 0
  | z :: l => z.toNat + msum l
theorem msum_set : ∀ (x : List Int) (k : Nat) (m : Int), 0 ≤ m → k < x.length → m < x.getD k 0 → msum (x.set k m) < msum x
  | [], _, _, _, h, _ => by simp at h
  | z :: l, 0, m, h0, _, h => by simp at h; simp [msum]; omega
  | z :: l, k + 1, m, h0, hk, h => by
    have := msum_set l k m h0 (by simpa using hk) (by simpa using h)
    simp [msum]; omega
theorem msum_le : ∀ (x y : List Int), x.length = y.length → (∀ v, v < x.length → x.getD v 0 ≤ y.getD v 0) → msum x ≤ msum y
  | [], [], _, _ => Nat.le_refl _
  | a :: x, [], h, _ => by simp at h
  | [], b :: y, h, _ => by simp at h
  | a :: x, b :: y, h, hl => by
    have h1 := msum_le x y (by simpa using h) (fun v hv => by have := hl (v + 1) (by simpa using hv); simpa using this)
    have h2 := hl 0 (by simp)
    simp at h2
    simp [msum]; omega
theorem msum_lt : ∀ (x y : List Int), x.length = y.length → (∀ z ∈ x, 0 ≤ z) → (∀ v, v < x.length → x.getD v 0 ≤ y.getD v 0) → x ≠ y → msum x < msum y
  | [], [], _, _, _, h => absurd rfl h
  | a :: x, [], h, _, _, _ => by simp at h
  | [], b :: y, h, _, _, _ => by simp at h
  | a :: x, b :: y, h, h0, hl, hn => by
    have h2 := hl 0 (by simp)
    simp at h2
    have ha : 0 ≤ a := h0 a (by simp)
    have hl' : ∀ v, v < x.length → x.getD v 0 ≤ y.getD v 0 := fun v hv => by have := hl (v + 1) (by simpa using hv); simpa using this
    by_cases e : x = y
    · subst e
      have : a ≠ b := fun h => hn (by rw [h])
      simp [msum]; omega
    · have h1 := msum_lt x y (by simpa using h) (fun z hz => h0 z (by simp [hz])) hl' e
      simp [msum]; omega
theorem msum_bound : ∀ (x : List Int), (∀ z ∈ x, z ≤ 1099511627776) → msum x ≤ x.length * 1099511627776
  | [], _ => by simp [msum]
  | a :: x, h => by
    have h1 := msum_bound x (fun z hz => h z (by simp [hz]))
    have h2 := h a (by simp)
    simp only [msum, List.length_cons]; omega

/-- one arc of the program's way: what is told at once is told on -/
def Seen (arcs : List Ac) (p : Ac → Int) (x : List Int) (i : Nat) : Prop := ∀ j, (h : j < arcs.length) → j < i → vat x arcs[j].2.1 ≤ vat x arcs[j].1 + p arcs[j]
/-- a round of the program: x at its begin, z behind i arcs; ch: has something turned? -/
structure Turn (first : List Int) (arcs : List Ac) (p : Ac → Int) (x z : List Int) (ch : Bool) (i : Nat) : Prop where
  mid : Mid first arcs p z
  same : ch = false → z = x ∧ Seen arcs p x i
  less : ch = true → msum z < msum x
theorem turn_start {first : List Int} {arcs : List Ac} {p : Ac → Int} {x : List Int} (h : Mid first arcs p x) : Turn first arcs p x x false 0 := ⟨h, fun _ => ⟨rfl, fun _ _ h => by omega⟩, fun h => by simp at h⟩
theorem turn_stay {first : List Int} {arcs : List Ac} {p : Ac → Int} {x z : List Int} {ch : Bool} {i : Nat} (T : Turn first arcs p x z ch i) (hi : i < arcs.length) (hn : ¬ vat z arcs[i].1 + p arcs[i] < vat z arcs[i].2.1) : Turn first arcs p x z ch (i + 1) := by
  refine ⟨T.mid, fun h => ⟨(T.same h).1, fun j hj hji => ?_⟩, T.less⟩
  by_cases e : j = i
  · subst e; rw [← (T.same h).1]; omega
  · exact (T.same h).2 j hj (by omega)
theorem turn_less {first : List Int} {arcs : List Ac} {p : Ac → Int} {x z : List Int} {ch : Bool} {i : Nat} (f : Fine first arcs p) (T : Turn first arcs p x z ch i) (hi : i < arcs.length) (hn : vat z arcs[i].1 + p arcs[i] < vat z arcs[i].2.1) : Turn first arcs p x (z.set arcs[i].2.1.toNat (vat z arcs[i].1 + p arcs[i])) true (i + 1) := by
  have hm : arcs[i] ∈ arcs := List.getElem_mem hi
  have he := f.en _ hm
  have hp := f.pl _ hm
  have hB : arcs[i].2.1.toNat < first.length := by omega
  have h0 : 0 ≤ vat z arcs[i].1 := T.mid.lo f _ (by omega)
  have hs := msum_set z arcs[i].2.1.toNat (vat z arcs[i].1 + p arcs[i]) (by omega) (by rw [T.mid.len]; exact hB) hn
  refine ⟨mid_set T.mid hB (by unfold vat at hn ⊢; omega) (mid_arc T.mid hm f.en), fun h => by simp at h, fun _ => ?_⟩
  cases hc : ch
  · rw [(T.same hc).1] at hs ⊢; exact hs
  · exact Nat.lt_trans hs (T.less hc)
theorem turn_end {first : List Int} {arcs : List Ac} {p : Ac → Int} {x z : List Int} (T : Turn first arcs p x z false arcs.length) : Best first arcs p z := by
  obtain ⟨rfl, hs⟩ := T.same rfl
  refine ⟨T.mid, fun a ha => ?_⟩
  obtain ⟨i, hi, rfl⟩ := List.getElem_of_mem ha
  exact hs i hi hi

/-- one arc of the reference's round: x at its begin, z so far -/
def rel1 (p : Ac → Int) (back : Bool) (x z : List Int) (a : Ac) : List Int :=
  let z1 := z.set a.2.1.toNat (min (vat z a.2.1) (vat x a.1 + p a))
  if back = true then z1.set a.1.toNat (min (vat z1 a.1) (vat x a.2.1 + p a)) else z1
/-- a round of the reference -/
def rnd (arcs : List Ac) (p : Ac → Int) (back : Bool) (x : List Int) : List Int := arcs.foldl (rel1 p back x) x
/-- some rounds -/
def rnds (arcs : List Ac) (p : Ac → Int) (back : Bool) : Nat → List Int → List Int
  | 0, x => x
  | k + 1, x => rnd arcs p back (rnds arcs p back k x)
/-- the arcs both ways round -/
def bothW (arcs : List Ac) : List Ac := arcs.flatMap fun a => [a, (a.2.1, a.1, a.2.2)]
def ways (back : Bool) (arcs : List Ac) : List Ac := if back = true then bothW arcs else arcs
theorem mem_both {arcs : List Ac} {b : Ac} : b ∈ bothW arcs ↔ ∃ a ∈ arcs, b = a ∨ b = (a.2.1, a.1, a.2.2) := by simp [bothW]
/-- a price that is the same either way round -/
def Even (p : Ac → Int) : Prop := ∀ a : Ac, p (a.2.1, a.1, a.2.2) = p a
theorem both_take (arcs : List Ac) (k : Nat) (hk : k < arcs.length) : bothW (arcs.take (k + 1)) = bothW (arcs.take k) ++ [arcs[k], (arcs[k].2.1, arcs[k].1, arcs[k].2.2)] := by
  unfold bothW
  rw [List.take_succ_eq_append_getElem hk, List.flatMap_append, List.flatMap_singleton]
theorem both_length : ∀ arcs : List Ac, (bothW arcs).length = arcs.length * 2
  | [] => rfl
  | a :: l => by
    have := both_length l
    unfold bothW at this ⊢
    rw [List.flatMap_cons, List.length_append, this]; simp; omega

theorem rel1_length (p : Ac → Int) (back : Bool) (x z : List Int) (a : Ac) : (rel1 p back x z a).length = z.length := by
  unfold rel1; cases back <;> simp
theorem foldl_rel1_length (p : Ac → Int) (back : Bool) (x : List Int) : ∀ (l : List Ac) (z : List Int), (l.foldl (rel1 p back x) z).length = z.length
  | [], _ => rfl
  | a :: l, z => by rw [List.foldl_cons, foldl_rel1_length p back x l, rel1_length]
theorem rnd_length (arcs : List Ac) (p : Ac → Int) (back : Bool) (x : List Int) : (rnd arcs p back x).length = x.length := foldl_rel1_length _ _ _ _ _
theorem rnds_length (arcs : List Ac) (p : Ac → Int) (back : Bool) : ∀ (k : Nat) (x : List Int), (rnds arcs p back k x).length = x.length
  | 0, _ => rfl
  | k + 1, x => by rw [rnds, rnd_length, rnds_length arcs p back k]
theorem fold_take (arcs : List Ac) (p : Ac → Int) (back : Bool) (x : List Int) (i : Nat) (hi : i < arcs.length) : (arcs.take (i + 1)).foldl (rel1 p back x) x = rel1 p back x ((arcs.take i).foldl (rel1 p back x) x) arcs[i] := by
  rw [List.take_succ_eq_append_getElem hi, List.foldl_append]; rfl

/-- what holds while a round of the reference goes on -/
structure Rn (first : List Int) (arcs : List Ac) (p : Ac → Int) (back : Bool) (x z : List Int) (i : Nat) : Prop where
  mid : Mid first (ways back arcs) p z
  le : ∀ v, v < first.length → z.getD v 0 ≤ x.getD v 0
  told : ∀ j, (h : j < arcs.length) → j < i → vat z arcs[j].2.1 ≤ vat x arcs[j].1 + p arcs[j] ∧ (back = true → vat z arcs[j].1 ≤ vat x arcs[j].2.1 + p arcs[j])
theorem mem_ways {back : Bool} {arcs : List Ac} {a : Ac} (h : a ∈ arcs) : a ∈ ways back arcs ∧ (back = true → (a.2.1, a.1, a.2.2) ∈ ways back arcs) := by
  unfold ways
  cases back
  · exact ⟨h, fun h => by simp at h⟩
  · exact ⟨mem_both.2 ⟨a, h, .inl rfl⟩, fun _ => mem_both.2 ⟨a, h, .inr rfl⟩⟩
theorem rn_start {first : List Int} {arcs : List Ac} {p : Ac → Int} {back : Bool} {x : List Int} (h : Mid first (ways back arcs) p x) : Rn first arcs p back x x 0 := ⟨h, fun _ _ => Int.le_refl _, fun _ _ h => by omega⟩
theorem vat_set {x : List Int} {k : Nat} {m v : Int} (hk : k < x.length) : vat (x.set k m) v = if v.toNat = k then m else vat x v := by unfold vat; exact getD_set _ _ _ _ hk
theorem rn_next {first : List Int} {arcs : List Ac} {p : Ac → Int} {back : Bool} {x z : List Int} {i : Nat} (f : Fine first (ways back arcs) p) (he : back = true → Even p) (hx : Mid first (ways back arcs) p x) (R : Rn first arcs p back x z i) (hi : i < arcs.length) : Rn first arcs p back x (rel1 p back x z arcs[i]) (i + 1) := by
  have hm : arcs[i] ∈ arcs := List.getElem_mem hi
  obtain ⟨hw, hw2⟩ := mem_ways (back := back) hm
  have en := f.en _ hw
  have k1 : arcs[i].2.1.toNat < first.length := by omega
  have k2 : arcs[i].1.toNat < first.length := by omega
  have M1 : Mid first (ways back arcs) p (z.set arcs[i].2.1.toNat (min (vat z arcs[i].2.1) (vat x arcs[i].1 + p arcs[i]))) := by
    refine mid_set R.mid k1 (by unfold vat; omega) (fun y hy => ?_)
    have h1 := mid_arc hx hw f.en y hy
    have h2 := R.mid.most y hy _ k1
    unfold vat at h1 ⊢; omega
  have L1 : ∀ v, v < first.length → (z.set arcs[i].2.1.toNat (min (vat z arcs[i].2.1) (vat x arcs[i].1 + p arcs[i]))).getD v 0 ≤ z.getD v 0 := by
    intro v hv
    rw [getD_set _ _ _ _ (by rw [R.mid.len]; exact k1)]
    by_cases e : v = arcs[i].2.1.toNat
    · rw [if_pos e, e]; unfold vat; omega
    · rw [if_neg e]; exact Int.le_refl _
  have V1 : vat (z.set arcs[i].2.1.toNat (min (vat z arcs[i].2.1) (vat x arcs[i].1 + p arcs[i]))) arcs[i].2.1 ≤ vat x arcs[i].1 + p arcs[i] := by
    rw [vat_set (by rw [R.mid.len]; exact k1), if_pos rfl]; omega
  unfold rel1
  generalize z.set arcs[i].2.1.toNat (min (vat z arcs[i].2.1) (vat x arcs[i].1 + p arcs[i])) = z1 at M1 L1 V1 ⊢
  have T1 : ∀ j, (h : j < arcs.length) → j < i + 1 → vat z1 arcs[j].2.1 ≤ vat x arcs[j].1 + p arcs[j] := by
    intro j hj hji
    by_cases e : j = i
    · subst e; exact V1
    · have hj2 := mem_ways (back := back) (List.getElem_mem hj)
      have := (R.told j hj (by omega)).1
      have h3 := L1 arcs[j].2.1.toNat (by have := f.en _ hj2.1; omega)
      unfold vat at this ⊢; omega
  cases back
  · simp only [Bool.false_eq_true, if_false]
    exact ⟨M1, fun v hv => Int.le_trans (L1 v hv) (R.le v hv), fun j hj hji => ⟨T1 j hj hji, fun h => by simp at h⟩⟩
  · simp only [if_true]
    have hev := he rfl
    have L2 : ∀ v, v < first.length → (z1.set arcs[i].1.toNat (min (vat z1 arcs[i].1) (vat x arcs[i].2.1 + p arcs[i]))).getD v 0 ≤ z1.getD v 0 := by
      intro v hv
      rw [getD_set _ _ _ _ (by rw [M1.len]; exact k2)]
      by_cases e : v = arcs[i].1.toNat
      · rw [if_pos e, e]; unfold vat; omega
      · rw [if_neg e]; exact Int.le_refl _
    refine ⟨mid_set M1 k2 (by unfold vat; omega) (fun y hy => ?_), fun v hv => Int.le_trans (L2 v hv) (Int.le_trans (L1 v hv) (R.le v hv)), fun j hj hji => ⟨?_, fun _ => ?_⟩⟩
    · have h1 := mid_arc hx (hw2 rfl) f.en y hy
      have h2 := M1.most y hy _ k2
      simp only [hev arcs[i]] at h1
      unfold vat at h1 ⊢; omega
    · have h1 := T1 j hj hji
      have hj2 := mem_ways (back := true) (List.getElem_mem hj)
      have h3 := L2 arcs[j].2.1.toNat (by have := f.en _ hj2.1; omega)
      unfold vat at h1 h3 ⊢; omega
    · by_cases e : j = i
      · subst e; rw [vat_set (by rw [M1.len]; exact k2), if_pos rfl]; omega
      · have hj2 := mem_ways (back := true) (List.getElem_mem hj)
        have h1 := (R.told j hj (by omega)).2 rfl
        have h4 := L1 arcs[j].1.toNat (by have := f.en _ hj2.1; omega)
        have h3 := L2 arcs[j].1.toNat (by have := f.en _ hj2.1; omega)
        unfold vat at h1 h3 h4 ⊢; omega
theorem rn_fold {first : List Int} {arcs : List Ac} {p : Ac → Int} {back : Bool} {x : List Int} (f : Fine first (ways back arcs) p) (he : back = true → Even p) (hx : Mid first (ways back arcs) p x) : ∀ i, i ≤ arcs.length → Rn first arcs p back x ((arcs.take i).foldl (rel1 p back x) x) i
  | 0, _ => by rw [List.take_zero]; exact rn_start hx
  | i + 1, h => by rw [fold_take _ _ _ _ _ (by omega)]; exact rn_next f he hx (rn_fold f he hx i (by omega)) (by omega)
theorem rn_round {first : List Int} {arcs : List Ac} {p : Ac → Int} {back : Bool} {x : List Int} (f : Fine first (ways back arcs) p) (he : back = true → Even p) (hx : Mid first (ways back arcs) p x) : Rn first arcs p back x (rnd arcs p back x) arcs.length := by
  have := rn_fold f he hx arcs.length (Nat.le_refl _)
  rw [List.take_length] at this; exact this
/-- where a round tells what was told nothing gets less -/
theorem rnd_end {first : List Int} {arcs : List Ac} {p : Ac → Int} {back : Bool} {x : List Int} (f : Fine first (ways back arcs) p) (he : back = true → Even p) (hx : Mid first (ways back arcs) p x) (h : rnd arcs p back x = x) : Best first (ways back arcs) p x := by
  have R := rn_round f he hx
  rw [h] at R
  refine ⟨hx, fun b hb => ?_⟩
  have go : ∀ a ∈ arcs, vat x a.2.1 ≤ vat x a.1 + p a ∧ (back = true → vat x a.1 ≤ vat x a.2.1 + p a) := by
    intro a ha
    obtain ⟨i, hi, rfl⟩ := List.getElem_of_mem ha
    exact R.told i hi hi
  unfold ways at hb
  cases back
  · simp only [Bool.false_eq_true, if_false] at hb; exact (go b hb).1
  · simp only [if_true] at hb
    obtain ⟨a, ha, rfl | rfl⟩ := mem_both.1 hb
    · exact (go _ ha).1
    · have := (go a ha).2 rfl
      rw [he rfl a]; exact this
theorem rnd_less {first : List Int} {arcs : List Ac} {p : Ac → Int} {back : Bool} {x : List Int} (f : Fine first (ways back arcs) p) (he : back = true → Even p) (hx : Mid first (ways back arcs) p x) (h : ¬ rnd arcs p back x = x) : msum (rnd arcs p back x) < msum x := by
  have R := rn_round f he hx
  exact msum_lt _ _ (by rw [R.mid.len, hx.len]) (fun z hz => (R.mid.bounds f z hz).1) (fun v hv => R.le v (by rw [← R.mid.len]; exact hv)) h

end Go.Proofs.Ytanbbkoleekmjag

namespace Go.Proofs.Ytanbbkoleekmjag

/-- is v the number of a vertex? -/
def vtx (n : Nat) (v : Int) : Bool := decide (0 ≤ v) && decide (v < (n : Int))
/-- is v alive? -/
def alv (al : List Bool) (v : Int) : Bool := vtx al.length v && al.getD v.toNat false
def endsB (al : List Bool) (a : Ac) : Bool := alv al a.1 && alv al a.2.1
def costB (a : Ac) : Bool := decide (0 ≤ a.2.2) && decide (a.2.2 ≤ 1000)
/-- what Check of a snapshot answers -/
def shot (al : List Bool) (arcs : List Ac) : Int :=
  if 12 < al.length ∨ 30 < arcs.length then 2 else if arcs.all (endsB al) = true then (if arcs.all costB = true then 0 else 1) else 4

theorem vtx_iff (n : Nat) (v : Int) : vtx n v = true ↔ 0 ≤ v ∧ v < (n : Int) := by unfold vtx; simp
theorem alv_iff (al : List Bool) (v : Int) : alv al v = true ↔ 0 ≤ v ∧ v < (al.length : Int) ∧ al.getD v.toNat false = true := by
  unfold alv; rw [Bool.and_eq_true, vtx_iff]; exact ⟨fun ⟨⟨a, b⟩, c⟩ => ⟨a, b, c⟩, fun ⟨a, b, c⟩ => ⟨⟨a, b⟩, c⟩⟩
theorem endsB_iff (al : List Bool) (a : Ac) : endsB al a = true ↔ alv al a.1 = true ∧ alv al a.2.1 = true := by unfold endsB; rw [Bool.and_eq_true]
theorem costB_iff (a : Ac) : costB a = true ↔ 0 ≤ a.2.2 ∧ a.2.2 ≤ 1000 := by unfold costB; simp
theorem alv_no {al : List Bool} {v : Int} (h : vtx al.length v = false) : alv al v = false := by unfold alv; rw [h]; rfl
theorem alv_yes {al : List Bool} {v : Int} (h : vtx al.length v = true) : alv al v = al.getD v.toNat false := by unfold alv; rw [h]; rfl

theorem shot_large {al : List Bool} {arcs : List Ac} (h : 12 < al.length ∨ 30 < arcs.length) : shot al arcs = 2 := by unfold shot; rw [if_pos h]
theorem shot_none {al : List Bool} {arcs : List Ac} (h : ¬ (12 < al.length ∨ 30 < arcs.length)) {k : Nat} (hk : k < arcs.length) (he : endsB al arcs[k] = false) : shot al arcs = 4 := by
  unfold shot; rw [if_neg h, if_neg]
  intro hh
  rw [List.all_eq_true] at hh
  have := hh _ (List.getElem_mem hk)
  rw [he] at this; simp at this
theorem shot_cost {al : List Bool} {arcs : List Ac} (h : ¬ (12 < al.length ∨ 30 < arcs.length)) (hE : arcs.all (endsB al) = true) {k : Nat} (hk : k < arcs.length) (he : costB arcs[k] = false) : shot al arcs = 1 := by
  unfold shot; rw [if_neg h, if_pos hE, if_neg]
  intro hh
  rw [List.all_eq_true] at hh
  have := hh _ (List.getElem_mem hk)
  rw [he] at this; simp at this
theorem shot_ok {al : List Bool} {arcs : List Ac} (h : ¬ (12 < al.length ∨ 30 < arcs.length)) (hE : arcs.all (endsB al) = true) (hC : arcs.all costB = true) : shot al arcs = 0 := by
  unfold shot; rw [if_neg h, if_pos hE, if_pos hC]
theorem all_take_succ {α : Type} {l : List α} {f : α → Bool} {k : Nat} (hk : k < l.length) (h0 : (l.take k).all f = true) (h : f l[k] = true) : (l.take (k + 1)).all f = true := by
  rw [List.take_succ_eq_append_getElem hk, List.all_append, h0]; simp [h]
theorem all_take_end {α : Type} {l : List α} {f : α → Bool} (h : (l.take l.length).all f = true) : l.all f = true := by rwa [List.take_length] at h

/-- a snapshot as it must be -/
structure Shot (al : List Bool) (arcs : List Ac) : Prop where
  nv : al.length ≤ 12
  na : arcs.length ≤ 30
  ends : ∀ a ∈ arcs, alv al a.1 = true ∧ alv al a.2.1 = true
  cost : ∀ a ∈ arcs, 0 ≤ a.2.2 ∧ a.2.2 ≤ 1000
theorem shot_right {al : List Bool} {arcs : List Ac} (h : shot al arcs = 0) : Shot al arcs := by
  unfold shot at h
  by_cases h1 : 12 < al.length ∨ 30 < arcs.length
  · rw [if_pos h1] at h; omega
  rw [if_neg h1] at h
  by_cases h2 : arcs.all (endsB al) = true
  · rw [if_pos h2] at h
    by_cases h3 : arcs.all costB = true
    · rw [List.all_eq_true] at h2 h3
      exact ⟨by omega, by omega, fun a ha => (endsB_iff _ _).1 (h2 a ha), fun a ha => (costB_iff _).1 (h3 a ha)⟩
    · rw [if_neg h3] at h; omega
  · rw [if_neg h2] at h; omega
theorem shot_bounds (al : List Bool) (arcs : List Ac) : 0 ≤ shot al arcs ∧ shot al arcs ≤ 4 := by
  unfold shot; split
  · omega
  · split
    · split <;> omega
    · omega
theorem Shot.en {al : List Bool} {arcs : List Ac} (S : Shot al arcs) : EndsIn al.length arcs := by
  intro a ha
  have h := S.ends a ha
  rw [alv_iff, alv_iff] at h
  omega

/-- what is told at first of those that are alive; Inf of others -/
def firstL (al : List Bool) (f : Int → Int) : List Int := (List.range al.length).map fun v => if al.getD v false = true then f v else 1099511627776
/-- nought at a vertex -/
def fromF (from_ : Int) (v : Int) : Int := if v = from_ then 0 else 1099511627776
theorem firstL_length (al : List Bool) (f : Int → Int) : (firstL al f).length = al.length := by simp [firstL]
theorem firstL_getD (al : List Bool) (f : Int → Int) (v : Nat) (h : v < al.length) : (firstL al f).getD v 0 = if al.getD v false = true then f v else 1099511627776 := by
  unfold firstL
  rw [List.getD_eq_getElem?_getD, List.getElem?_map, List.getElem?_range h]; rfl
theorem firstL_take (al : List Bool) (f : Int → Int) (k : Nat) (h : k < al.length) : (firstL al f).take (k + 1) = (firstL al f).take k ++ [if al.getD k false = true then f k else 1099511627776] := by
  rw [List.take_succ_eq_append_getElem (by rw [firstL_length]; exact h)]
  have := firstL_getD al f k h
  rw [List.getD_eq_getElem?_getD, List.getElem?_eq_getElem (by rw [firstL_length]; exact h)] at this
  simp only [Option.getD_some] at this
  rw [this]
theorem firstL_congr {al : List Bool} {f g : Int → Int} (h : ∀ v : Nat, v < al.length → f v = g v) : firstL al f = firstL al g := by
  unfold firstL
  apply List.map_congr_left
  intro v hv
  rw [h v (by simpa using hv)]
theorem Shot.fine {al : List Bool} {arcs : List Ac} (S : Shot al arcs) {f : Int → Int} {p : Ac → Int} (hf : ∀ v : Nat, v < al.length → 0 ≤ f v ∧ f v ≤ 1099511627776) (hp : ∀ a ∈ arcs, 0 ≤ p a ∧ p a ≤ 1000) : Fine (firstL al f) arcs p := by
  refine ⟨fun v hv => ?_, fun v hv => ?_, hp, by rw [firstL_length]; exact S.en⟩
  · rw [firstL_length] at hv
    rw [firstL_getD _ _ _ hv]
    split
    · exact (hf v hv).1
    · omega
  · rw [firstL_length] at hv
    rw [firstL_getD _ _ _ hv]
    split
    · exact (hf v hv).2
    · omega
theorem Shot.bothW {al : List Bool} {arcs : List Ac} (S : Shot al arcs) {f : Int → Int} {p : Ac → Int} (hf : ∀ v : Nat, v < al.length → 0 ≤ f v ∧ f v ≤ 1099511627776) (hp : ∀ a : Ac, a ∈ arcs → 0 ≤ p a ∧ p a ≤ 1000) (he : Even p) : Fine (firstL al f) (bothW arcs) p := by
  have F := S.fine hf hp
  refine ⟨F.lo, F.hi, fun b hb => ?_, fun b hb => ?_⟩
  · obtain ⟨a, ha, rfl | rfl⟩ := mem_both.1 hb
    · exact hp _ ha
    · rw [he a]; exact hp a ha
  · obtain ⟨a, ha, rfl | rfl⟩ := mem_both.1 hb
    · exact F.en _ ha
    · have := F.en a ha; exact ⟨this.2.2.1, this.2.2.2, this.1, this.2.1⟩
theorem fromF_bounds (from_ : Int) (v : Nat) : 0 ≤ fromF from_ v ∧ fromF from_ v ≤ 1099511627776 := by unfold fromF; split <;> omega

/-- how many arcs leave a vertex -/
def degF (arcs : List Ac) (v : Int) : Int := (arcs.countP fun a => decide (a.1 = v) : Nat)

/-- all that is asked of what a program tells -/
def priceOf (prog : Nat) (a : Ac) : Int := if prog = 1 then 1 else if prog = 2 then a.2.2 else 0

end Go.Proofs.Ytanbbkoleekmjag

namespace Go.Proofs.Ytanbbkoleekmjag
open Go.RowKit

theorem Try.infoBool : (Try.prog.info? 4).map (fun i => (i.zero, i.size, i.bytes)) = some (some (.bool false), 1, 1) := by kernel_rfl
/-- bools lie at ao -/
def BsAt (w : World) (ao : Option Addr) (l : List Bool) : Prop :=
  l = [] ∨ ∃ b off, ao = some ⟨b, off, none⟩ ∧ b < w.heap.size ∧ ∀ j, j < l.length → w.cell? ⟨b, off + j, none⟩ = some (.bool (l.getD j false))
theorem BsAt.below {w w' : World} {ao : Option Addr} {l : List Bool} (h : BsAt w ao l) (hb : Below w.heap.size w w') : BsAt w' ao l := by
  rcases h with h | ⟨b, off, rfl, hlt, hc⟩
  · exact .inl h
  · refine .inr ⟨b, off, rfl, Nat.lt_of_lt_of_le hlt hb.size, fun j hj => ?_⟩
    rw [hb.cell (p := ⟨b, off + j, none⟩) hlt]
    exact hc j hj
theorem bsAt_of_owns {w : World} {base e : Nat} {v : Value} {n : Nat} {l : List Bool} (h : w.ownsRow base e 1 v n (l.map Value.bool)) : ∃ ao cap, v = .slice ao l.length cap ∧ BsAt w ao l := by
  obtain ⟨h1, h2⟩ := h
  simp only [List.length_map, Nat.mul_one] at h1
  subst h1
  rcases h2 with ⟨rfl, h0⟩ | ⟨g, cap, cur, rfl, hb, hh, h3, h4, h5, h6⟩
  · exact ⟨none, 0, by rw [h0], .inl (List.eq_nil_of_length_eq_zero h0)⟩
  · refine ⟨_, cap, rfl, .inr ⟨g, 0, rfl, (Array.getElem?_eq_some_iff.1 hh).1, fun j hj => ?_⟩⟩
    have := World.ownsRow.cellAt (w := w) (base := base) (e := e) (size := 1) (xs := l.map Value.bool) ⟨by simp, .inr ⟨g, cap, cur, rfl, hb, hh, h3, h4, h5, h6⟩⟩ j (by omega)
    rw [Nat.zero_add, this, List.getElem?_map, List.getD_eq_getElem?_getD, List.getElem?_eq_getElem hj]
    rfl

theorem hidep {p : Prop} (h : p) : Hid p := h
theorem retp_int {a b : Int} (h : a = b) : Ending.returned (.int .i64 a) = .returned (.int .i64 b) := by rw [h]
theorem retp_bool {a b : Bool} (h : a = b) : Ending.returned (.bool a) = .returned (.bool b) := by rw [h]
theorem PcAt.at3 {w : World} {b off : Nat} {m : List (Int × Int × Int)} {k : Nat} (hk : k < m.length) (hc : ∀ j, j < m.length → w.cell? ⟨b, off + j * 3, none⟩ = some (.int .i64 (m.getD j (0, 0, 0)).1) ∧ w.cell? ⟨b, off + j * 3 + 1, none⟩ = some (.int .i64 (m.getD j (0, 0, 0)).2.1) ∧ w.cell? ⟨b, off + j * 3 + 2, none⟩ = some (.int .i64 (m.getD j (0, 0, 0)).2.2)) :
    w.cell? ⟨b, off + k * 3, none⟩ = some (.int .i64 m[k].1) ∧ w.cell? ⟨b, off + k * 3 + 1, none⟩ = some (.int .i64 m[k].2.1) ∧ w.cell? ⟨b, off + k * 3 + 2, none⟩ = some (.int .i64 m[k].2.2) := by
  have h := hc k hk
  simpa only [List.getD_eq_getElem?_getD, List.getElem?_eq_getElem hk, Option.getD_some] using h
theorem BsAt.at1 {w : World} {b off : Nat} {l : List Bool} {k : Nat} (hk : k < l.length) (hc : ∀ j, j < l.length → w.cell? ⟨b, off + j, none⟩ = some (.bool (l.getD j false))) : w.cell? ⟨b, off + k, none⟩ = some (.bool l[k]) := by
  have h := hc k hk
  simpa only [List.getD_eq_getElem?_getD, List.getElem?_eq_getElem hk, Option.getD_some] using h
theorem PcAt.lt {w : World} {b off : Nat} {m : List (Int × Int × Int)} (h : PcAt w (some ⟨b, off, none⟩) m) (hm : m ≠ []) : b < w.heap.size := by
  rcases h with h | ⟨b', off', e, h, _⟩
  · exact absurd h hm
  · cases e; exact h

end Go.Proofs.Ytanbbkoleekmjag

namespace Go.Proofs.Ytanbbkoleekmjag
open Go.RowKit

/-- what a search for a leg tells -/
def legV (o : Option Lg) : Value := .tuple #[.agg #[.int .i64 (o.getD (0, 0, 0, 0)).1, .int .i64 (o.getD (0, 0, 0, 0)).2.1, .int .i64 (o.getD (0, 0, 0, 0)).2.2.1, .int .i64 (o.getD (0, 0, 0, 0)).2.2.2], .bool o.isSome]

set_option maxRecDepth 100000 in
set_option maxHeartbeats 4000000 in
theorem legAt_any (A B : Int) (lo : Option Addr) (lcap : Nat) (legs : List Lg) (t : Int) (w : World) (hL : LgAt w lo legs) (hn : legs.length ≤ 9223372036854775807) :
    Calls Try.prog 69 #[.agg #[.int .i64 A, .int .i64 B, .slice lo legs.length lcap], .int .i64 t] w fun r w' => r = .returned (legV (lgFind t legs)) ∧ Below w.heap.size w w' := by
  have HB : Hid (∀ o o', Below w.heap.size w ((w.alloc o).alloc o')) := fun o o' => ptg (gal w o) (gal _ o')
  go_enter Try.func69, Try.ntmps69
  go_wp2
  go_loopw [11] (fun i wr => ∃ k : Nat, k ≤ legs.length ∧ i = .int .i64 k ∧ lgFind t legs = lgFind t (legs.drop k) ∧ Below (w.heap.size + 2) ((w.alloc (.cells #[.int .i64 A, .int .i64 B, .slice lo legs.length lcap] 78)).alloc (.cells #[.int .i64 0, .int .i64 0, .int .i64 0, .int .i64 0] 75)) wr) (fun i _ => legs.length - (intOf i).toNat)
  case atStart => exact ⟨0, Nat.zero_le _, rfl, rfl, Below.refl _ _⟩
  case round =>
    obtain ⟨k, hk, rfl, hI, hb⟩ := hrel
    have HI := hideg hI
    clear hI
    have hbw : Below w.heap.size w wr := (HB.out _ _).trans (hb.mono (by omega))
    have hz := hb.size
    simp only [World.size_alloc] at hz
    have hz0 : w.heap.size < wr.heap.size := by omega
    have hz1 : w.heap.size + 1 < wr.heap.size := by omega
    have r0 : wr.cell? ⟨w.heap.size + 1, 0, none⟩ = some (.int .i64 0) := by rw [hb.cell (p := ⟨w.heap.size + 1, 0, none⟩) (by simp)]; simp
    have r1 : wr.cell? ⟨w.heap.size + 1, 1, none⟩ = some (.int .i64 0) := by rw [hb.cell (p := ⟨w.heap.size + 1, 1, none⟩) (by simp)]; simp
    have r2 : wr.cell? ⟨w.heap.size + 1, 2, none⟩ = some (.int .i64 0) := by rw [hb.cell (p := ⟨w.heap.size + 1, 2, none⟩) (by simp)]; simp
    have r3 : wr.cell? ⟨w.heap.size + 1, 3, none⟩ = some (.int .i64 0) := by rw [hb.cell (p := ⟨w.heap.size + 1, 3, none⟩) (by simp)]; simp
    have f0 : ∀ j, wr.frozen? ⟨w.heap.size + 1, j, none⟩ = false := fun j => by rw [hb.frozen (p := ⟨w.heap.size + 1, j, none⟩) (by simp)]; simp
    by_cases hlt : k < legs.length
    · rcases hL.below hbw with h0 | ⟨b, off, rfl, hbr, hc⟩
      · subst h0; simp at hlt
      obtain ⟨c0, c1, c2, c3⟩ := LgAt.get hlt hc
      have HN := hideg (fun o => hb.alloc (by omega) o)
      clear hc hL
      by_cases g1 : legs[k].1 ≤ t
      · by_cases g2 : t < legs[k].2.1
        · have HR := hideg (lgFind_hit hlt HI.out ((hasB_iff _ _ _).2 ⟨g1, g2⟩))
          go_wp2
          refine bodyPost_ret (v := legV (some legs[k])) (by simp [results, Try.results69, go_sem, legV, r0, r1, r2, r3, hz1]) rfl ⟨by rw [HR.out], ?_⟩
          exact (((((hbw.setCell (p := ⟨w.heap.size + 1, 0, none⟩) (by simp) _).setCell (p := ⟨w.heap.size + 1, 1, none⟩) (by simp) _).setCell (p := ⟨w.heap.size + 1, 2, none⟩) (by simp) _).setCell (p := ⟨w.heap.size + 1, 3, none⟩) (by simp) _).alloc (by simp; omega) _)
        · have HR := hideg (lgFind_next hlt HI.out (hasB_no (by omega)))
          go_wp2
          go_roundw
          case rel => exact ⟨k + 1, by omega, by go_num, HR.out, HN.out _⟩
          case measure => simp [intOf]; omega
      · have HR := hideg (lgFind_next hlt HI.out (hasB_no (by omega)))
        go_wp2
        go_roundw
        case rel => exact ⟨k + 1, by omega, by go_num, HR.out, HN.out _⟩
        case measure => simp [intOf]; omega
    · have hkl : k = legs.length := by omega
      subst hkl
      have HR := hideg (lgFind_end HI.out)
      go_wp2
      refine bodyPost_ret (v := legV none) (by simp [results, Try.results69, go_sem, legV, r0, r1, r2, r3]) rfl ⟨by rw [HR.out], ?_⟩
      exact ((((hbw.setCell (p := ⟨w.heap.size + 1, 0, none⟩) (by simp) _).setCell (p := ⟨w.heap.size + 1, 1, none⟩) (by simp) _).setCell (p := ⟨w.heap.size + 1, 2, none⟩) (by simp) _).setCell (p := ⟨w.heap.size + 1, 3, none⟩) (by simp) _)

end Go.Proofs.Ytanbbkoleekmjag

namespace Go.Proofs.Ytanbbkoleekmjag
open Go.RowKit

set_option maxRecDepth 100000 in
set_option maxHeartbeats 1000000 in
theorem Alive_any (h : Int) (la ea : Option Addr) (lc ne ec : Nat) (lives : List (Int × Int)) (v : Nat) (t : Int) (w : World) (hl : IvAt w la lives) (hv : v < lives.length) (hn : lives.length ≤ 9223372036854775807) :
    Calls Try.prog 18 #[.agg #[.int .i64 h, .slice la lives.length lc, .slice ea ne ec], .int .i64 v, .int .i64 t] w fun r w' => r = .returned (.bool (aliveB t lives v)) ∧ Below w.heap.size w w' := by
  have HB := hideg (gal w)
  rcases hl with h0 | ⟨b, off, rfl, hbr, hc⟩
  · subst h0; simp at hv
  obtain ⟨c0, c1⟩ := IvAt.get hv hc
  have HA := hideg (aliveB_at t lives v hv)
  clear hc
  have i1 : (v : Int) < (lives.length : Int) := by omega
  have i2 : (0 : Int) ≤ (v : Int) := by omega
  by_cases g1 : lives[v].1 ≤ t
  · by_cases g2 : t < lives[v].2
    · have HR := hideg ((hasB_iff _ _ _).2 ⟨g1, g2⟩)
      go_enter Try.func18, Try.ntmps18
      go_wp2
      go_ret
      exact ⟨ret_bool (by rw [HA.out, HR.out]), HB.out _⟩
    · have HR := hideg (hasB_no (a := lives[v].1) (b := lives[v].2) (t := t) (by omega))
      go_enter Try.func18, Try.ntmps18
      go_wp2
      go_ret
      exact ⟨ret_bool (by rw [HA.out, HR.out]), HB.out _⟩
  · have HR := hideg (hasB_no (a := lives[v].1) (b := lives[v].2) (t := t) (by omega))
    go_enter Try.func18, Try.ntmps18
    go_wp2
    go_ret
    exact ⟨ret_bool (by rw [HA.out, HR.out]), HB.out _⟩

end Go.Proofs.Ytanbbkoleekmjag

namespace Go.Proofs.Ytanbbkoleekmjag

/-- when one comes along an edge, who leaves at t, and at what cost -/
def lands (g : Gr) (e : Ed) (t : Int) : Option (Int × Int) :=
  match lgFind t e.2.2 with
  | none => none
  | some l => if (aliveB t g.lives e.1 && (decide (t + l.2.2.1 < g.hor) && aliveB (t + l.2.2.1) g.lives e.2.1)) = true then some (t + l.2.2.1, l.2.2.2) else none
theorem lands_none {g : Gr} {e : Ed} {t : Int} (h : lgFind t e.2.2 = none) : lands g e t = none := by unfold lands; rw [h]
theorem lands_no {g : Gr} {e : Ed} {t : Int} {l : Lg} (h : lgFind t e.2.2 = some l) (k : (aliveB t g.lives e.1 && (decide (t + l.2.2.1 < g.hor) && aliveB (t + l.2.2.1) g.lives e.2.1)) = false) : lands g e t = none := by
  unfold lands; rw [h]; simp only [k]; rfl
theorem lands_yes {g : Gr} {e : Ed} {t : Int} {l : Lg} (h : lgFind t e.2.2 = some l) (k : (aliveB t g.lives e.1 && (decide (t + l.2.2.1 < g.hor) && aliveB (t + l.2.2.1) g.lives e.2.1)) = true) : lands g e t = some (t + l.2.2.1, l.2.2.2) := by
  unfold lands; rw [h]; simp only [k, if_true]
theorem lgFind_mem {t : Int} {ls : List Lg} {l : Lg} (h : lgFind t ls = some l) : l ∈ ls ∧ l.1 ≤ t ∧ t < l.2.1 := by
  induction ls with
  | nil => cases h
  | cons x ls ih =>
    rw [lgFind] at h
    split at h
    · rename_i hx; cases h; exact ⟨by simp, (hasB_iff _ _ _).1 hx⟩
    · have := ih h; exact ⟨by simp [this.1], this.2⟩
theorem lands_spec {g : Gr} {e : Ed} {t tq c : Int} (h : lands g e t = some (tq, c)) : ∃ l ∈ e.2.2, l.1 ≤ t ∧ t < l.2.1 ∧ tq = t + l.2.2.1 ∧ c = l.2.2.2 ∧ aliveB t g.lives e.1 = true ∧ tq < g.hor ∧ aliveB tq g.lives e.2.1 = true := by
  unfold lands at h
  split at h
  · cases h
  · rename_i l hl
    split at h
    · rename_i hk
      simp only [Option.some.injEq, Prod.mk.injEq] at h
      simp only [Bool.and_eq_true, decide_eq_true_eq] at hk
      obtain ⟨h1, h2, h3⟩ := lgFind_mem hl
      exact ⟨l, h1, h2, h3, h.1.symm, h.2.symm, hk.1, by omega, by rw [← h.1]; exact hk.2.2⟩
    · cases h

/-- what is wrong with a graph, a vertex and a time -/
def placeE (g : Gr) (v t : Int) : Int := if gChk g = 0 then if inR v 0 ((g.lives.length : Int) - 1) = true then if inR t 0 (g.hor - 1) = true then 0 else 1 else 4 else gChk g
theorem placeE_cases (g : Gr) (v t : Int) : placeE g v t = 0 ∨ placeE g v t = 1 ∨ placeE g v t = 2 ∨ placeE g v t = 4 ∨ placeE g v t = 5 := by
  unfold placeE
  split
  · split
    · split <;> simp
    · simp
  · exact gChk_cases g
theorem placeE_zero {g : Gr} {v t : Int} (h : placeE g v t = 0) : gChk g = 0 ∧ (0 ≤ v ∧ v < (g.lives.length : Int)) ∧ 0 ≤ t ∧ t < g.hor := by
  unfold placeE at h
  split at h
  · rename_i h0
    split at h
    · rename_i h1
      split at h
      · rename_i h2
        rw [inR_iff] at h1 h2
        exact ⟨h0, by omega, by omega⟩
      · cases h
    · cases h
  · rename_i h0; exact absurd h h0

/-- one hop: Edge, Depart -/
abbrev Hp := Int × Int
/-- one hop from where one is -/
def hopF (g : Gr) (s : Int × Int × Int) (h : Hp) : Option (Int × Int × Int) :=
  if inR h.1 0 ((g.edges.length : Int) - 1) = true then
    if (g.edges.getD h.1.toNat (0, 0, [])).1 = s.1 ∧ s.2.1 ≤ h.2 then
      match lands g (g.edges.getD h.1.toNat (0, 0, [])) h.2 with
      | none => none
      | some q => some ((g.edges.getD h.1.toNat (0, 0, [])).2.1, q.1, s.2.2 + q.2)
    else none
  else none
/-- what hops come to -/
def goF (g : Gr) (s : Option (Int × Int × Int)) (l : List Hp) : Option (Int × Int × Int) := l.foldl (fun s h => s.bind fun s => hopF g s h) s
theorem goF_take {g : Gr} {s : Option (Int × Int × Int)} {l : List Hp} {k : Nat} (hk : k < l.length) : goF g s (l.take (k + 1)) = (goF g s (l.take k)).bind fun s => hopF g s l[k] := by
  unfold goF; rw [List.take_succ_eq_append_getElem hk, List.foldl_append]; rfl
theorem goF_none (g : Gr) (l : List Hp) : goF g none l = none := by
  induction l with
  | nil => rfl
  | cons h l ih => exact ih
theorem goF_stuck {g : Gr} {s : Option (Int × Int × Int)} {l : List Hp} {k : Nat} (h : goF g s (l.take k) = none) : goF g s l = none := by
  have e : l = l.take k ++ l.drop k := (List.take_append_drop k l).symm
  rw [e]
  unfold goF at h ⊢
  rw [List.foldl_append, h]
  exact goF_none g _
theorem goF_append (g : Gr) (s : Option (Int × Int × Int)) (a b : List Hp) : goF g s (a ++ b) = goF g (goF g s a) b := by unfold goF; rw [List.foldl_append]

/-- what Go answers: where, when, at what cost, the error -/
def goAns (g : Gr) (v t : Int) (l : List Hp) : Int × Int × Int × Int :=
  if placeE g v t = 0 then
    if 500 < l.length then (0, 0, 0, 2)
    else
      match goF g (if aliveB t g.lives v = true then some (v, t, 0) else none) l with
      | none => (0, 0, 0, 5)
      | some s => (s.1, s.2.1, s.2.2, 0)
  else (0, 0, 0, placeE g v t)

/-- the hops by which one can leave a vertex at a time -/
def outAt (g : Gr) (v d : Int) : Nat → List Hp
  | 0 => []
  | i + 1 => outAt g v d i ++ if (lands g (g.edges.getD i (0, 0, [])) d).isSome = true ∧ (g.edges.getD i (0, 0, [])).1 = v then [((i : Int), d)] else []
/-- .. and at each of k times from t on -/
def outsTo (g : Gr) (v t : Int) : Nat → List Hp
  | 0 => []
  | k + 1 => outsTo g v t k ++ outAt g v (t + k) g.edges.length
theorem outAt_len (g : Gr) (v d : Int) (i : Nat) : (outAt g v d i).length ≤ i := by
  induction i with
  | zero => simp [outAt]
  | succ i ih =>
    rw [outAt, List.length_append]
    split <;> simp <;> omega
theorem outsTo_len (g : Gr) (v t : Int) (k : Nat) : (outsTo g v t k).length ≤ k * g.edges.length := by
  induction k with
  | zero => simp [outsTo]
  | succ k ih =>
    have := outAt_len g v (t + k) g.edges.length
    rw [outsTo, List.length_append, Nat.succ_mul]; omega
/-- what Out answers of a right place -/
def outsF (g : Gr) (v t : Int) : List Hp := if aliveB t g.lives v = true then outsTo g v t (g.hor - t).toNat else []

end Go.Proofs.Ytanbbkoleekmjag

namespace Go.Proofs.Ytanbbkoleekmjag
open Go.RowKit

theorem wrap_nr (n : Int) (h0 : -9223372036854775808 ≤ n) (h1 : n < 9223372036854775808) : IntKind.i64.wrap n = n := by
  simp only [IntKind.wrap, IntKind.bits, IntKind.signed]
  simp
  omega

/-- a graph in a box -/
structure GBox (w W : World) (B : Nat) (g : Gr) (la ea : Option Addr) (lc ec : Nat) : Prop where
  c0 : W.cell? ⟨B, 0, none⟩ = some (.int .i64 g.hor)
  c1 : W.cell? ⟨B, 1, none⟩ = some (.slice la g.lives.length lc)
  c2 : W.cell? ⟨B, 2, none⟩ = some (.slice ea g.edges.length ec)
  bel : Below w.heap.size w W
  lt : B < W.heap.size
theorem gbox_start (w : World) (g : Gr) (la ea : Option Addr) (lc ec : Nat) (T : TypeId) : GBox w (w.alloc (.cells #[.int .i64 g.hor, .slice la g.lives.length lc, .slice ea g.edges.length ec] T)) w.heap.size g la ea lc ec :=
  ⟨by simp, by simp, by simp, gal w _, by simp⟩
theorem GBox.below {w W W' : World} {B : Nat} {g : Gr} {la ea : Option Addr} {lc ec : Nat} (h : GBox w W B g la ea lc ec) (hb : Below W.heap.size W W') : GBox w W' B g la ea lc ec :=
  ⟨(hb.cell (p := ⟨B, 0, none⟩) h.lt).trans h.c0, (hb.cell (p := ⟨B, 1, none⟩) h.lt).trans h.c1, (hb.cell (p := ⟨B, 2, none⟩) h.lt).trans h.c2, ptg h.bel hb, Nat.lt_of_lt_of_le h.lt hb.size⟩
theorem GBox.drewN {w W : World} {B : Nat} {g : Gr} {la ea : Option Addr} {lc ec : Nat} (h : GBox w W B g la ea lc ec) (n : Nat) : GBox w (W.drewN n) B g la ea lc ec := ⟨h.c0, h.c1, h.c2, below_drewN h.bel n, h.lt⟩

/-- a graph, an edge and a leg in boxes -/
structure LBox (w W : World) (B E K : Nat) (g : Gr) (la ea : Option Addr) (lc ec : Nat) (e : Ed) (l : Lg) : Prop where
  gb : GBox w W B g la ea lc ec
  e0 : W.cell? ⟨E, 0, none⟩ = some (.int .i64 e.1)
  e1 : W.cell? ⟨E, 1, none⟩ = some (.int .i64 e.2.1)
  l2 : W.cell? ⟨K, 2, none⟩ = some (.int .i64 l.2.2.1)
  l3 : W.cell? ⟨K, 3, none⟩ = some (.int .i64 l.2.2.2)
  ltE : E < W.heap.size
  ltK : K < W.heap.size
theorem LBox.below {w W W' : World} {B E K : Nat} {g : Gr} {la ea : Option Addr} {lc ec : Nat} {e : Ed} {l : Lg} (h : LBox w W B E K g la ea lc ec e l) (hb : Below W.heap.size W W') : LBox w W' B E K g la ea lc ec e l :=
  ⟨h.gb.below hb, (hb.cell (p := ⟨E, 0, none⟩) h.ltE).trans h.e0, (hb.cell (p := ⟨E, 1, none⟩) h.ltE).trans h.e1, (hb.cell (p := ⟨K, 2, none⟩) h.ltK).trans h.l2, (hb.cell (p := ⟨K, 3, none⟩) h.ltK).trans h.l3, Nat.lt_of_lt_of_le h.ltE hb.size, Nat.lt_of_lt_of_le h.ltK hb.size⟩

/-- what Lands tells -/
def landsV (o : Option (Int × Int)) : Value := .tuple #[.int .i64 (o.getD (0, 0)).1, .int .i64 (o.getD (0, 0)).2, .bool o.isSome]

end Go.Proofs.Ytanbbkoleekmjag

namespace Go.Proofs.Ytanbbkoleekmjag

/-- from a vertex at a time to a vertex at a time, at a price -/
abbrev JA := Nat × Nat × Nat × Nat × Int
/-- a table: a row a vertex, a number a time -/
abbrev Tb := List (List Int)
def tat (T : Tb) (v t : Nat) : Int := (T.getD v []).getD t 0
def tset (T : Tb) (v t : Nat) (m : Int) : Tb := T.set v ((T.getD v []).set t m)
/-- a table has n rows of h numbers -/
structure Shp (n h : Nat) (T : Tb) : Prop where
  rows : T.length = n
  cols : ∀ v, v < n → (T.getD v []).length = h
theorem getD_set_row (T : Tb) (v v' : Nat) (r : List Int) (h : v < T.length) : (T.set v r).getD v' [] = if v' = v then r else T.getD v' [] := by
  simp only [List.getD_eq_getElem?_getD, List.getElem?_set]
  by_cases e : v = v'
  · subst e; simp [h]
  · have : ¬ v' = v := fun h => e h.symm
    simp [e, this]
theorem shp_set {n h : Nat} {T : Tb} (S : Shp n h T) {v : Nat} (hv : v < n) (t : Nat) (m : Int) : Shp n h (tset T v t m) := by
  refine ⟨by unfold tset; rw [List.length_set]; exact S.rows, fun v' hv' => ?_⟩
  unfold tset
  rw [getD_set_row _ _ _ _ (by rw [S.rows]; exact hv)]
  split
  · rw [List.length_set]; exact S.cols v hv
  · exact S.cols v' hv'
theorem tat_set {n h : Nat} {T : Tb} (S : Shp n h T) {v t : Nat} (hv : v < n) (ht : t < h) (m : Int) (v' t' : Nat) : tat (tset T v t m) v' t' = if v' = v ∧ t' = t then m else tat T v' t' := by
  unfold tat tset
  rw [getD_set_row _ _ _ _ (by rw [S.rows]; exact hv)]
  by_cases e : v' = v
  · subst e
    rw [if_pos rfl, getD_set _ _ _ _ (by rw [S.cols v' hv]; exact ht)]
    by_cases e2 : t' = t <;> simp [e2]
  · rw [if_neg e, if_neg (fun h => e h.1)]
def tsum (T : Tb) : Nat := (T.map msum).sum
theorem tsum_set_row : ∀ (T : Tb) (v : Nat) (r : List Int), v < T.length → msum r < msum (T.getD v []) → tsum (T.set v r) < tsum T
  | [], v, r, h, _ => by simp at h
  | a :: T, 0, r, _, h => by simp [tsum] at h ⊢; omega
  | a :: T, v + 1, r, hv, h => by
    have := tsum_set_row T v r (by simpa using hv) (by simpa using h)
    simp [tsum] at this ⊢; omega
theorem tsum_set {n h : Nat} {T : Tb} (S : Shp n h T) {v t : Nat} (hv : v < n) (ht : t < h) {m : Int} (h0 : 0 ≤ m) (hm : m < tat T v t) : tsum (tset T v t m) < tsum T :=
  tsum_set_row T v _ (by rw [S.rows]; exact hv) (msum_set _ t m h0 (by rw [S.cols v hv]; exact ht) hm)

/-- a way from place to place is fine -/
structure JOk (n h : Nat) (a : JA) : Prop where
  v : a.1 < n
  t : a.2.1 < h
  v' : a.2.2.1 < n
  t' : a.2.2.2.1 < h
  lt : a.2.1 < a.2.2.2.1
  p0 : 0 ≤ a.2.2.2.2
  p1 : a.2.2.2.2 ≤ 1000
def src (T : Tb) (a : JA) : Int := tat T a.1 a.2.1
def dst (T : Tb) (a : JA) : Int := tat T a.2.2.1 a.2.2.2.1
/-- numbers that no way makes less, none above what is told at first -/
structure JAdm (n h : Nat) (first : Nat → Nat → Int) (arcs : List JA) (y : Nat → Nat → Int) : Prop where
  le : ∀ v t, v < n → t < h → y v t ≤ first v t
  cl : ∀ a ∈ arcs, y a.2.2.1 a.2.2.2.1 ≤ y a.1 a.2.1 + a.2.2.2.2
structure JMid (n h : Nat) (first : Nat → Nat → Int) (arcs : List JA) (T : Tb) : Prop where
  shp : Shp n h T
  le : ∀ v t, v < n → t < h → tat T v t ≤ first v t
  most : ∀ y, JAdm n h first arcs y → ∀ v t, v < n → t < h → y v t ≤ tat T v t
structure JBest (n h : Nat) (first : Nat → Nat → Int) (arcs : List JA) (T : Tb) : Prop where
  mid : JMid n h first arcs T
  cl : ∀ a ∈ arcs, dst T a ≤ src T a + a.2.2.2.2
theorem jbest_le {n h : Nat} {first : Nat → Nat → Int} {arcs : List JA} {T T' : Tb} (B : JBest n h first arcs T) (M : JMid n h first arcs T') : ∀ v t, v < n → t < h → tat T v t ≤ tat T' v t :=
  M.most (tat T) ⟨B.mid.le, B.cl⟩
theorem shp_ext {n h : Nat} {T T' : Tb} (S : Shp n h T) (S' : Shp n h T') (e : ∀ v t, v < n → t < h → tat T v t = tat T' v t) : T = T' := by
  apply List.ext_getElem (by rw [S.rows, S'.rows])
  intro v h1 h2
  have hv : v < n := by rw [← S.rows]; exact h1
  have c1 := S.cols v hv
  have c2 := S'.cols v hv
  rw [List.getD_eq_getElem?_getD, List.getElem?_eq_getElem h1, Option.getD_some] at c1
  rw [List.getD_eq_getElem?_getD, List.getElem?_eq_getElem h2, Option.getD_some] at c2
  apply List.ext_getElem (by rw [c1, c2])
  intro t h3 h4
  have := e v t hv (by rw [← c1]; exact h3)
  unfold tat at this
  simp only [List.getD_eq_getElem?_getD, List.getElem?_eq_getElem h1, List.getElem?_eq_getElem h2, Option.getD_some, List.getElem?_eq_getElem h3, List.getElem?_eq_getElem h4] at this
  exact this
theorem jbest_unique {n h : Nat} {first : Nat → Nat → Int} {arcs : List JA} {T T' : Tb} (B : JBest n h first arcs T) (B' : JBest n h first arcs T') : T = T' :=
  shp_ext B.mid.shp B'.mid.shp fun v t hv ht => Int.le_antisymm (jbest_le B B'.mid v t hv ht) (jbest_le B' B.mid v t hv ht)
theorem JMid.lo {n h : Nat} {first : Nat → Nat → Int} {arcs : List JA} {T : Tb} (M : JMid n h first arcs T) (hf : ∀ v t, v < n → t < h → 0 ≤ first v t) (ha : ∀ a ∈ arcs, JOk n h a) (v t : Nat) (hv : v < n) (ht : t < h) : 0 ≤ tat T v t :=
  M.most (fun _ _ => 0) ⟨hf, fun a hm => by have := (ha a hm).p0; show (0 : Int) ≤ 0 + _; omega⟩ v t hv ht

/-- a number told to a place: it stands there if it is less -/
def putT (T : Tb) (v t : Nat) (m : Int) : Tb := if m < tat T v t then tset T v t m else T
theorem shp_put {n h : Nat} {T : Tb} (S : Shp n h T) {v : Nat} (hv : v < n) (t : Nat) (m : Int) : Shp n h (putT T v t m) := by unfold putT; split; exact shp_set S hv t m; exact S
theorem tat_put {n h : Nat} {T : Tb} (S : Shp n h T) {v t : Nat} (hv : v < n) (ht : t < h) (m : Int) (v' t' : Nat) : tat (putT T v t m) v' t' = if v' = v ∧ t' = t then min m (tat T v t) else tat T v' t' := by
  unfold putT
  split
  · rename_i hm
    rw [tat_set S hv ht]
    by_cases e : v' = v ∧ t' = t
    · rw [if_pos e, if_pos e]; omega
    · rw [if_neg e, if_neg e]
  · rename_i hm
    by_cases e : v' = v ∧ t' = t
    · obtain ⟨rfl, rfl⟩ := e; simp; omega
    · rw [if_neg e]

/-- a round: x at its begin, z behind the ways of 'done'; ch: has something turned? -/
structure Tn (n h : Nat) (first : Nat → Nat → Int) (arcs : List JA) (x z : Tb) (ch : Bool) (done : List JA) : Prop where
  mid : JMid n h first arcs z
  same : ch = false → z = x ∧ ∀ a ∈ done, dst x a ≤ src x a + a.2.2.2.2
  less : ch = true → tsum z < tsum x
theorem tn_start {n h : Nat} {first : Nat → Nat → Int} {arcs : List JA} {x : Tb} (M : JMid n h first arcs x) : Tn n h first arcs x x false [] := ⟨M, fun _ => ⟨rfl, fun a ha => by simp at ha⟩, fun h => by simp at h⟩
theorem Tn.sum {n h : Nat} {first : Nat → Nat → Int} {arcs : List JA} {x z : Tb} {ch : Bool} {done : List JA} (T : Tn n h first arcs x z ch done) : tsum z ≤ tsum x := by
  cases ch with
  | true => exact Nat.le_of_lt (T.less rfl)
  | false => rw [(T.same rfl).1]; exact Nat.le_refl _
theorem tn_nil {n h : Nat} {first : Nat → Nat → Int} {arcs : List JA} {x z : Tb} {ch : Bool} {done : List JA} (T : Tn n h first arcs x z ch done) : Tn n h first arcs x z ch (done ++ []) := by rw [List.append_nil]; exact T
theorem tn_inf {n h : Nat} {first : Nat → Nat → Int} {arcs : List JA} {x z : Tb} {ch : Bool} {done : List JA} {a : JA} (T : Tn n h first arcs x z ch done) (ok : JOk n h a) (hf : ∀ v t, v < n → t < h → first v t ≤ 1099511627776) (hi : src z a = 1099511627776) : Tn n h first arcs x z ch (done ++ [a]) := by
  refine ⟨T.mid, fun hc => ⟨(T.same hc).1, fun b hb => ?_⟩, T.less⟩
  rw [List.mem_append, List.mem_singleton] at hb
  rcases hb with hb | rfl
  · exact (T.same hc).2 b hb
  · have e := (T.same hc).1
    rw [← e, hi]
    have h1 := T.mid.le b.2.2.1 b.2.2.2.1 ok.v' ok.t'
    have h2 := hf b.2.2.1 b.2.2.2.1 ok.v' ok.t'
    have h3 := ok.p0
    unfold dst; omega
theorem tn_put {n h : Nat} {first : Nat → Nat → Int} {arcs : List JA} {x z : Tb} {ch : Bool} {done : List JA} {a : JA} (T : Tn n h first arcs x z ch done) (hm : a ∈ arcs) (hok : ∀ a ∈ arcs, JOk n h a) (hf0 : ∀ v t, v < n → t < h → 0 ≤ first v t) :
    Tn n h first arcs x (putT z a.2.2.1 a.2.2.2.1 (src z a + a.2.2.2.2)) (ch || decide (src z a + a.2.2.2.2 < dst z a)) (done ++ [a]) := by
  have ok := hok a hm
  have hs := T.sum
  have h0 : 0 ≤ src z a := T.mid.lo hf0 hok a.1 a.2.1 ok.v ok.t
  have hp := ok.p0
  by_cases hlt : src z a + a.2.2.2.2 < dst z a
  · rw [show decide (src z a + a.2.2.2.2 < dst z a) = true from by simpa using hlt, Bool.or_true]
    have e : putT z a.2.2.1 a.2.2.2.1 (src z a + a.2.2.2.2) = tset z a.2.2.1 a.2.2.2.1 (src z a + a.2.2.2.2) := by unfold putT; exact if_pos hlt
    rw [e]
    refine ⟨⟨shp_set T.mid.shp ok.v' _ _, fun v t hv ht => ?_, fun y hy v t hv ht => ?_⟩, fun h => by simp at h, fun _ => Nat.lt_of_lt_of_le (tsum_set T.mid.shp ok.v' ok.t' (by omega) hlt) hs⟩
    · rw [tat_set T.mid.shp ok.v' ok.t']
      split
      · rename_i hv'
        have := T.mid.le v t hv ht
        rw [hv'.1, hv'.2] at this ⊢
        unfold dst at hlt; omega
      · exact T.mid.le v t hv ht
    · rw [tat_set T.mid.shp ok.v' ok.t']
      split
      · rename_i hv'
        have h1 := hy.cl a hm
        have h2 := T.mid.most y hy a.1 a.2.1 ok.v ok.t
        rw [hv'.1, hv'.2]
        unfold src; omega
      · exact T.mid.most y hy v t hv ht
  · rw [show decide (src z a + a.2.2.2.2 < dst z a) = false from by simpa using hlt, Bool.or_false]
    have e : putT z a.2.2.1 a.2.2.2.1 (src z a + a.2.2.2.2) = z := by unfold putT; exact if_neg hlt
    rw [e]
    refine ⟨T.mid, fun hc => ⟨(T.same hc).1, fun b hb => ?_⟩, T.less⟩
    rw [List.mem_append, List.mem_singleton] at hb
    rcases hb with hb | rfl
    · exact (T.same hc).2 b hb
    · rw [← (T.same hc).1]; omega
theorem tn_end {n h : Nat} {first : Nat → Nat → Int} {arcs : List JA} {x z : Tb} (T : Tn n h first arcs x z false arcs) : JBest n h first arcs z := by
  obtain ⟨e, hc⟩ := T.same rfl
  exact ⟨T.mid, by rw [e]; exact hc⟩

/-- what stands in a table: nothing, or a number that grows with time at most -/
def Tm (n h : Nat) (T : Tb) : Prop := ∀ v t, v < n → t < h → tat T v t = 1099511627776 ∨ (0 ≤ tat T v t ∧ tat T v t ≤ 1000 * (t : Int))
/-- two tables tell of the same places -/
def Pr (n h : Nat) (X Y : Tb) : Prop := ∀ v t, v < n → t < h → (tat X v t = 1099511627776 ↔ tat Y v t = 1099511627776)
theorem tm_put {n h : Nat} {T : Tb} {a : JA} (S : Shp n h T) (hT : Tm n h T) (ok : JOk n h a) (hh : h ≤ 100) (hs : src T a ≠ 1099511627776) : Tm n h (putT T a.2.2.1 a.2.2.2.1 (src T a + a.2.2.2.2)) ∧ tat (putT T a.2.2.1 a.2.2.2.1 (src T a + a.2.2.2.2)) a.2.2.1 a.2.2.2.1 ≠ 1099511627776 := by
  have h1 := ok.lt
  have h2 := ok.p0
  have h3 := ok.p1
  have h4 := ok.t'
  have h5 : 0 ≤ src T a ∧ src T a ≤ 1000 * (a.2.1 : Int) := by rcases hT a.1 a.2.1 ok.v ok.t with e | e; exact absurd e hs; exact e
  refine ⟨fun v t hv ht => ?_, ?_⟩
  · rw [tat_put S ok.v' ok.t']
    split
    · rename_i e
      rw [e.2]
      rcases hT a.2.2.1 a.2.2.2.1 ok.v' ok.t' with k | k
      · right; omega
      · right; omega
    · exact hT v t hv ht
  · rw [tat_put S ok.v' ok.t', if_pos ⟨rfl, rfl⟩]
    omega
theorem pr_put {n h : Nat} {X Y : Tb} {a b : JA} (SX : Shp n h X) (SY : Shp n h Y) (hX : Tm n h X) (hY : Tm n h Y) (hP : Pr n h X Y) (oka : JOk n h a) (okb : JOk n h b) (hh : h ≤ 100) (e : b.1 = a.1 ∧ b.2.1 = a.2.1 ∧ b.2.2.1 = a.2.2.1 ∧ b.2.2.2.1 = a.2.2.2.1) (hs : src X a ≠ 1099511627776) :
    Pr n h (putT X a.2.2.1 a.2.2.2.1 (src X a + a.2.2.2.2)) (putT Y b.2.2.1 b.2.2.2.1 (src Y b + b.2.2.2.2)) := by
  have hsb : src Y b ≠ 1099511627776 := by
    unfold src at hs ⊢
    rw [e.1, e.2.1]
    exact fun h => hs ((hP a.1 a.2.1 oka.v oka.t).2 h)
  intro v t hv ht
  have k1 := (tm_put SX hX oka hh hs).2
  have k2 := (tm_put SY hY okb hh hsb).2
  by_cases q : v = a.2.2.1 ∧ t = a.2.2.2.1
  · obtain ⟨rfl, rfl⟩ := q
    rw [e.2.2.1, e.2.2.2] at k2 ⊢
    exact ⟨fun h => absurd h k1, fun h => absurd h k2⟩
  · rw [tat_put SX oka.v' oka.t', tat_put SY okb.v' okb.t', if_neg q, if_neg (by rw [e.2.2.1, e.2.2.2]; exact q)]
    exact hP v t hv ht

/-- waiting, of the first k vertices at a time -/
def waitA (g : Gr) (t : Nat) : Nat → List JA
  | 0 => []
  | k + 1 => waitA g t k ++ if ((t : Int) + 1 < g.hor) ∧ aliveB ((t : Int) + 1) g.lives (k : Int) = true then [(k, t, k, t + 1, 0)] else []
/-- going along the first i edges at a time; pr: the price of a cost -/
def legA (g : Gr) (pr : Int → Int) (t : Nat) : Nat → List JA
  | 0 => []
  | i + 1 => legA g pr t i ++
    match lands g (g.edges.getD i (0, 0, [])) (t : Int) with
    | none => []
    | some q => [((g.edges.getD i (0, 0, [])).1.toNat, t, (g.edges.getD i (0, 0, [])).2.1.toNat, q.1.toNat, pr q.2)]
/-- all ways of the first k times -/
def allA (g : Gr) (pr : Int → Int) : Nat → List JA
  | 0 => []
  | k + 1 => allA g pr k ++ (waitA g k g.lives.length ++ legA g pr k g.edges.length)
theorem waitA_ok {g : Gr} (R : Right g) {t : Nat} (ht : (t : Int) < g.hor) : ∀ k, k ≤ g.lives.length → ∀ a ∈ waitA g t k, JOk g.lives.length g.hor.toNat a
  | 0, _, a, ha => by simp [waitA] at ha
  | k + 1, hk, a, ha => by
    rw [waitA, List.mem_append] at ha
    rcases ha with ha | ha
    · exact waitA_ok R ht k (by omega) a ha
    · split at ha
      · rename_i h
        simp only [List.mem_singleton] at ha
        subst ha
        exact ⟨by show k < _; omega, by show t < _; omega, by show k < _; omega, by show t + 1 < _; omega, by show t < t + 1; omega, by show (0 : Int) ≤ 0; omega, by show (0 : Int) ≤ 1000; omega⟩
      · simp at ha
theorem legA_ok {g : Gr} (R : Right g) {pr : Int → Int} (hpr : ∀ c, 0 ≤ c → c ≤ 1000 → 0 ≤ pr c ∧ pr c ≤ 1000) {t : Nat} (ht : (t : Int) < g.hor) : ∀ i, i ≤ g.edges.length → ∀ a ∈ legA g pr t i, JOk g.lives.length g.hor.toNat a
  | 0, _, a, ha => by simp [legA] at ha
  | i + 1, hi, a, ha => by
    rw [legA, List.mem_append] at ha
    rcases ha with ha | ha
    · exact legA_ok R hpr ht i (by omega) a ha
    · have hg : g.edges.getD i (0, 0, []) = g.edges[i] := by simp [List.getD_eq_getElem?_getD, List.getElem?_eq_getElem (show i < g.edges.length by omega)]
      rw [hg] at ha
      have hem : g.edges[i] ∈ g.edges := List.getElem_mem _
      split at ha
      · simp at ha
      · rename_i q hq
        simp only [List.mem_singleton] at ha
        subst ha
        obtain ⟨l, hl, _, _, h3, h4, _, h6, _⟩ := lands_spec (tq := q.1) (c := q.2) hq
        have hfit := (fitB_iff _ _).1 (R.legs _ hem l hl)
        have hend := R.ends _ hem
        have hc := hpr q.2 (by omega) (by omega)
        exact ⟨by show g.edges[i].1.toNat < _; omega, by show t < _; omega, by show g.edges[i].2.1.toNat < _; omega, by show q.1.toNat < _; omega, by show t < q.1.toNat; omega, hc.1, hc.2⟩
theorem allA_ok {g : Gr} (R : Right g) {pr : Int → Int} (hpr : ∀ c, 0 ≤ c → c ≤ 1000 → 0 ≤ pr c ∧ pr c ≤ 1000) : ∀ k : Nat, (k : Int) ≤ g.hor → ∀ a ∈ allA g pr k, JOk g.lives.length g.hor.toNat a
  | 0, _, a, ha => by simp [allA] at ha
  | k + 1, hk, a, ha => by
    rw [allA, List.mem_append, List.mem_append] at ha
    rcases ha with ha | ha | ha
    · exact allA_ok R hpr k (by omega) a ha
    · exact waitA_ok R (by omega) _ (Nat.le_refl _) a ha
    · exact legA_ok R hpr (by omega) _ (Nat.le_refl _) a ha
theorem waitA_sub {g : Gr} {t k : Nat} : ∀ {m : Nat}, k ≤ m → ∀ a ∈ waitA g t k, a ∈ waitA g t m
  | 0, h, a, ha => by have : k = 0 := by omega
                      subst this; exact ha
  | m + 1, h, a, ha => by
    by_cases e : k = m + 1
    · subst e; exact ha
    · rw [waitA, List.mem_append]; exact .inl (waitA_sub (by omega) a ha)
theorem legA_sub {g : Gr} {pr : Int → Int} {t i : Nat} : ∀ {m : Nat}, i ≤ m → ∀ a ∈ legA g pr t i, a ∈ legA g pr t m
  | 0, h, a, ha => by have : i = 0 := by omega
                      subst this; exact ha
  | m + 1, h, a, ha => by
    by_cases e : i = m + 1
    · subst e; exact ha
    · rw [legA, List.mem_append]; exact .inl (legA_sub (by omega) a ha)
theorem allA_sub {g : Gr} {pr : Int → Int} {k : Nat} : ∀ {m : Nat}, k ≤ m → ∀ a ∈ allA g pr k, a ∈ allA g pr m
  | 0, h, a, ha => by have : k = 0 := by omega
                      subst this; exact ha
  | m + 1, h, a, ha => by
    by_cases e : k = m + 1
    · subst e; exact ha
    · rw [allA, List.mem_append]; exact .inl (allA_sub (by omega) a ha)

/-- what is told at first -/
def firstT (g : Gr) (v t : Int) (v' t' : Nat) : Int := if aliveB t g.lives v = true ∧ (v' : Int) = v ∧ (t' : Int) = t then 0 else 1099511627776
theorem firstT_lo (g : Gr) (v t : Int) (v' t' : Nat) : 0 ≤ firstT g v t v' t' := by unfold firstT; split <;> omega
theorem firstT_hi (g : Gr) (v t : Int) (v' t' : Nat) : firstT g v t v' t' ≤ 1099511627776 := by unfold firstT; split <;> omega
/-- what Sums tells -/
structure SumIs (g : Gr) (v t : Int) (X Y : Tb) : Prop where
  costs : JBest g.lives.length g.hor.toNat (firstT g v t) (allA g id g.hor.toNat) X
  hops : JBest g.lives.length g.hor.toNat (firstT g v t) (allA g (fun _ => 1) g.hor.toNat) Y
  tmX : Tm g.lives.length g.hor.toNat X
  tmY : Tm g.lives.length g.hor.toNat Y
  pr : Pr g.lives.length g.hor.toNat X Y

end Go.Proofs.Ytanbbkoleekmjag

namespace Go.Proofs.Ytanbbkoleekmjag
open Go.RowKit

/-- a world in which all that was there in w0 is as it was -/
structure HeldIn (w0 : World) where
  w : World
  h : Below w0.heap.size w0 w

theorem wp_region_held {P : Program} (w0 : World) {id : Nat} {Q : Exit → Act → World → Prop} {a : Act} {w : World} {l : List Oper} (h0 : Below w0.heap.size w0 w) (hm : P.follows .mixedOrders = true) (hB : Region.lexB .any l.toArray = true)
    (h : wpQuiet P l.toArray (fun w' => ∃ s : HeldIn w0, w' = s.w) (fun a' => ∀ w', (∃ s : HeldIn w0, w' = s.w) → Q .normal a' w') l a) : (Code.region id l.toArray true).wp P Q a w :=
  wp_region_quiet (C := fun w' => ∃ s : HeldIn w0, w' = s.w) hm hB ⟨⟨_, h0.drew⟩, rfl⟩ (by simpa using h)

/-- a callee that only makes new memory, at such a region -/
theorem held_of {P : Program} {f : FuncId} {args : Array Value} {w0 : World} {s : HeldIn w0} {v : Value}
    (h : Calls P f args s.w fun e w' => e = .returned v ∧ Below s.w.heap.size s.w w') : Calls P f args s.w fun e w'' => e = .returned v ∧ ∃ s' : HeldIn w0, w'' = s'.w :=
  h.mono fun _ w' ⟨he, hb⟩ => ⟨he, ⟨w', s.h.trans (hb.mono s.h.size)⟩, rfl⟩
theorem held_same {P : Program} {f : FuncId} {args : Array Value} {w0 : World} {s : HeldIn w0} {v : Value}
    (h : Calls P f args s.w fun e w' => e = .returned v ∧ w' = s.w) : Calls P f args s.w fun e w'' => e = .returned v ∧ ∃ s' : HeldIn w0, w'' = s'.w :=
  h.mono fun _ _ ⟨he, hb⟩ => ⟨he, s, hb⟩

end Go.Proofs.Ytanbbkoleekmjag
