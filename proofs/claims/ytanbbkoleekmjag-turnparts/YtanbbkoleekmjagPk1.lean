/-
  Several texts in one: Math, Sets, Base, GMath, Chk, Has, GBase, GText, GRow, TnMath, Pop, GChk, GEdge.
-/
import Derived.Test.YtanbbkoleekmjagRows
import Derived.WalkKit
import Derived.WalkSpells
import Derived.WalkLawsBesides
import Derived.Deep.QuietTactic
import Derived.BigQuiet
import Derived.Deep.RegionWith
import Derived.Deep.RegionHeld3
import Derived.Deep.AppendLies
import Derived.Lib.ItoaMem
import Derived.Lib.SplitLaws
import Derived.OrdersHeld
import Derived.Deep.RegionHeld

namespace Go.Proofs.Ytanbbkoleekmjag

/-- a number from -10^9 to 10^9 -/
def nearB (x : Int) : Prop := -1000000000 ≤ x ∧ x ≤ 1000000000

/-- the first k pairs are near -/
def Near (l : List (Int × Int)) (k : Nat) : Prop := ∀ i, i < k → nearB (l.getD i (0, 0)).1 ∧ nearB (l.getD i (0, 0)).2
def nearDec (l : List (Int × Int)) (k : Nat) : Decidable (Near l k) := by unfold Near nearB; infer_instance

/-- the first k pairs rise and don't touch -/
def Form (l : List (Int × Int)) (k : Nat) : Prop := ∀ i, i < k → (l.getD i (0, 0)).1 < (l.getD i (0, 0)).2 ∧ (0 < i → (l.getD (i - 1) (0, 0)).2 < (l.getD i (0, 0)).1)
def goodDec (l : List (Int × Int)) (k : Nat) : Decidable (Near l k ∧ Form l k) := by unfold Near Form nearB; infer_instance

/-- what checkBounds answers -/
def cbs (l : List (Int × Int)) : Int := if 200 < l.length then 2 else @ite Int (Near l l.length) (nearDec l l.length) 0 5
/-- what Check answers -/
def chk (l : List (Int × Int)) : Int := if 200 < l.length then 2 else @ite Int (Near l l.length ∧ Form l l.length) (goodDec l l.length) 0 5

theorem near_succ {l : List (Int × Int)} {k : Nat} (h : Near l k) (h1 : nearB (l.getD k (0, 0)).1) (h2 : nearB (l.getD k (0, 0)).2) : Near l (k + 1) := by
  intro i hi
  by_cases e : i = k
  · subst e; exact ⟨h1, h2⟩
  · exact h i (by omega)
theorem form_succ {l : List (Int × Int)} {k : Nat} (h : Form l k) (h1 : (l.getD k (0, 0)).1 < (l.getD k (0, 0)).2) (h2 : 0 < k → (l.getD (k - 1) (0, 0)).2 < (l.getD k (0, 0)).1) : Form l (k + 1) := by
  intro i hi
  by_cases e : i = k
  · subst e; exact ⟨h1, h2⟩
  · exact h i (by omega)

theorem cbs_large {l : List (Int × Int)} (h : 200 < l.length) : cbs l = 2 := by simp [cbs, h]
theorem cbs_ok {l : List (Int × Int)} (h : l.length ≤ 200) (hn : Near l l.length) : cbs l = 0 := by
  unfold cbs; rw [if_neg (by omega), if_pos hn]
theorem cbs_no {l : List (Int × Int)} {k : Nat} (h : l.length ≤ 200) (hk : k < l.length) (hn : ¬ (nearB (l.getD k (0, 0)).1 ∧ nearB (l.getD k (0, 0)).2)) : cbs l = 5 := by
  unfold cbs; rw [if_neg (by omega), if_neg (fun hh => hn (hh k hk))]
theorem cbs_cases (l : List (Int × Int)) : (cbs l = 2 ∧ 200 < l.length) ∨ (cbs l = 5 ∧ l.length ≤ 200 ∧ ¬ Near l l.length) ∨ (cbs l = 0 ∧ l.length ≤ 200 ∧ Near l l.length) := by
  unfold cbs
  by_cases h : 200 < l.length
  · exact .inl ⟨by rw [if_pos h], h⟩
  · rw [if_neg h]
    by_cases hn : Near l l.length
    · exact .inr (.inr ⟨by rw [if_pos hn], by omega, hn⟩)
    · exact .inr (.inl ⟨by rw [if_neg hn], by omega, hn⟩)
theorem chk_large {l : List (Int × Int)} (h : 200 < l.length) : chk l = 2 := by simp [chk, h]
theorem chk_ok {l : List (Int × Int)} (h : l.length ≤ 200) (hn : Near l l.length) (hf : Form l l.length) : chk l = 0 := by
  unfold chk; rw [if_neg (by omega), if_pos ⟨hn, hf⟩]
theorem chk_far {l : List (Int × Int)} (h : l.length ≤ 200) (hn : ¬ Near l l.length) : chk l = 5 := by
  unfold chk; rw [if_neg (by omega), if_neg (fun hh => hn hh.1)]
theorem chk_no {l : List (Int × Int)} {k : Nat} (h : l.length ≤ 200) (hk : k < l.length) (hn : ¬ ((l.getD k (0, 0)).1 < (l.getD k (0, 0)).2 ∧ (0 < k → (l.getD (k - 1) (0, 0)).2 < (l.getD k (0, 0)).1))) : chk l = 5 := by
  unfold chk; rw [if_neg (by omega), if_neg (fun hh => hn (hh.2 k hk))]
theorem chk_cases (l : List (Int × Int)) : chk l = 2 ∨ chk l = 5 ∨ (chk l = 0 ∧ l.length ≤ 200 ∧ Near l l.length ∧ Form l l.length) := by
  unfold chk
  by_cases h : 200 < l.length
  · exact .inl (by rw [if_pos h])
  · rw [if_neg h]
    by_cases hn : Near l l.length ∧ Form l l.length
    · exact .inr (.inr ⟨by rw [if_pos hn], by omega, hn⟩)
    · exact .inr (.inl (by rw [if_neg hn]))


/-- all ends of the pairs, in order -/
def flat (l : List (Int × Int)) : List Int := l.flatMap fun p => [p.1, p.2]
theorem flat_nil : flat [] = [] := rfl
theorem flat_cons (p : Int × Int) (l : List (Int × Int)) : flat (p :: l) = p.1 :: p.2 :: flat l := by simp [flat]
theorem flat_append (a b : List (Int × Int)) : flat (a ++ b) = flat a ++ flat b := by simp [flat]
theorem flat_length (l : List (Int × Int)) : (flat l).length = 2 * l.length := by
  induction l with
  | nil => rfl
  | cons p l ih => rw [flat_cons]; simp only [List.length_cons, ih]; omega
theorem take_succ_get {α : Type} (l : List α) (k : Nat) (hk : k < l.length) : l.take (k + 1) = l.take k ++ [l[k]] := by
  rw [List.take_add_one, List.getElem?_eq_getElem hk]; rfl
theorem flat_succ (l : List (Int × Int)) (k : Nat) (hk : k < l.length) : flat (l.take (k + 1)) = flat (l.take k) ++ [l[k].1, l[k].2] := by
  rw [take_succ_get l k hk, flat_append]; rfl
theorem flat_take_length (l : List (Int × Int)) (k : Nat) (hk : k ≤ l.length) : (flat (l.take k)).length = 2 * k := by
  rw [flat_length, List.length_take]; omega

theorem flat_getD (l : List (Int × Int)) (j : Nat) (h : j < l.length) : (flat l)[j * 2]? = some (l.getD j (0, 0)).1 ∧ (flat l)[j * 2 + 1]? = some (l.getD j (0, 0)).2 := by
  induction l generalizing j with
  | nil => simp at h
  | cons p l ih =>
    rw [flat_cons]
    cases j with
    | zero => exact ⟨rfl, rfl⟩
    | succ j =>
      have := ih j (by simpa using h)
      rw [show (j + 1) * 2 = j * 2 + 1 + 1 by omega]
      simpa using this

end Go.Proofs.Ytanbbkoleekmjag

namespace Go.Proofs.Ytanbbkoleekmjag

/-- is a number odd? -/
def odd (k : Nat) : Bool := ((k : Int) % 2 == 1)
theorem odd_succ (k : Nat) : odd (k + 1) = !odd k := by
  unfold odd
  rw [Bool.eq_iff_iff]
  simp
  omega
theorem odd_zero : odd 0 = false := rfl
theorem odd_cast_succ (k : Nat) : (((k : Int) + 1) % 2 == 1) = odd (k + 1) := by
  unfold odd
  rw [Bool.eq_iff_iff]
  simp
theorem odd_two (k : Nat) : odd (2 * k) = false := by
  unfold odd
  simp

/-- how many are at or below t? -/
def cnt (l : List Int) (t : Int) : Nat := l.countP fun x => decide (x ≤ t)
theorem cnt_nil (t : Int) : cnt [] t = 0 := rfl
theorem cnt_cons (x : Int) (l : List Int) (t : Int) : cnt (x :: l) t = cnt l t + if x ≤ t then 1 else 0 := by
  unfold cnt
  rw [List.countP_cons]
  simp
theorem cnt_append (a b : List Int) (t : Int) : cnt (a ++ b) t = cnt a t + cnt b t := by
  unfold cnt; rw [List.countP_append]
theorem cnt_none {l : List Int} {t : Int} (h : ∀ x ∈ l, t < x) : cnt l t = 0 := by
  unfold cnt
  rw [List.countP_eq_zero]
  intro x hx
  have := h x hx
  simp; omega
theorem cnt_all {l : List Int} {t : Int} (h : ∀ x ∈ l, x ≤ t) : cnt l t = l.length := by
  unfold cnt
  rw [List.countP_eq_length]
  intro x hx
  simpa using h x hx

/-- what sweeping has made of the first i and j ends -/
structure Swp (want : Bool → Bool → Bool) (A B : List Int) (i j : Nat) (r : List Int) : Prop where
  hi : i ≤ A.length
  hj : j ≤ B.length
  sep : ∀ x, (x ∈ r ∨ x ∈ A.take i ∨ x ∈ B.take j) → ∀ y, (y ∈ A.drop i ∨ y ∈ B.drop j) → x < y
  inc : r.Pairwise (· < ·)
  par : odd r.length = want (odd i) (odd j)
  pts : ∀ t, odd (cnt r t) = want (odd (cnt (A.take i) t)) (odd (cnt (B.take j) t))
  len : r.length ≤ i + j
  near : ∀ x ∈ r, nearB x

theorem swp_start {want : Bool → Bool → Bool} (hw : want false false = false) (A B : List Int) : Swp want A B 0 0 [] :=
  ⟨Nat.zero_le _, Nat.zero_le _, fun x h => by simp at h, List.Pairwise.nil, by simp [odd_zero, hw], fun t => by simp [cnt_nil, odd_zero, hw], Nat.zero_le _, fun x h => by simp at h⟩

/-- one list's part of a step -/
def Stp (A : List Int) (i i' : Nat) (τ : Int) : Prop := (i' = i + 1 ∧ A[i]? = some τ) ∨ (i' = i ∧ ∀ y ∈ A.drop i, τ < y)

theorem stp_le {A : List Int} {i i' : Nat} {τ : Int} (h : Stp A i i' τ) (hi : i ≤ A.length) : i' ≤ A.length := by
  rcases h with ⟨rfl, h⟩ | ⟨rfl, _⟩
  · have := (List.getElem?_eq_some_iff.1 h).1; omega
  · exact hi
theorem stp_mem {A : List Int} {i i' : Nat} {τ x : Int} (h : Stp A i i' τ) (hx : x ∈ A.take i') : x ∈ A.take i ∨ x = τ := by
  rcases h with ⟨rfl, h⟩ | ⟨rfl, _⟩
  · obtain ⟨hl, he⟩ := List.getElem?_eq_some_iff.1 h
    rw [take_succ_get A i hl] at hx
    simp only [List.mem_append, List.mem_singleton] at hx
    rcases hx with hx | hx
    · exact .inl hx
    · exact .inr (hx.trans he)
  · exact .inl hx
theorem stp_rest {A : List Int} {i i' : Nat} {τ y : Int} (h : Stp A i i' τ) (hy : y ∈ A.drop i') : y ∈ A.drop i := by
  rcases h with ⟨rfl, h⟩ | ⟨rfl, _⟩
  · rw [← List.drop_drop] at hy
    exact List.mem_of_mem_drop hy
  · exact hy
theorem stp_lt {A : List Int} {i i' : Nat} {τ y : Int} (sA : A.Pairwise (· < ·)) (h : Stp A i i' τ) (hy : y ∈ A.drop i') : τ < y := by
  rcases h with ⟨rfl, h⟩ | ⟨rfl, hh⟩
  · obtain ⟨hl, he⟩ := List.getElem?_eq_some_iff.1 h
    have sd := sA.sublist (List.drop_sublist i A)
    rw [List.drop_eq_getElem_cons hl, List.pairwise_cons] at sd
    rw [← he]
    exact sd.1 y hy
  · exact hh y hy
theorem stp_cnt_lt {A : List Int} {i i' : Nat} {τ t : Int} (h : Stp A i i' τ) (ht : t < τ) : cnt (A.take i') t = cnt (A.take i) t := by
  rcases h with ⟨rfl, h⟩ | ⟨rfl, _⟩
  · obtain ⟨hl, he⟩ := List.getElem?_eq_some_iff.1 h
    rw [take_succ_get A i hl, cnt_append, he, cnt_none (l := [τ]) (by simpa using ht)]
    rfl
  · rfl

theorem swp_step {want : Bool → Bool → Bool} {A B : List Int} {i j i' j' : Nat} {r r' : List Int} {τ : Int} (S : Swp want A B i j r) (sA : A.Pairwise (· < ·)) (sB : B.Pairwise (· < ·)) (hn : nearB τ)
    (hi : Stp A i i' τ) (hj : Stp B j j' τ) (hτ : τ ∈ A.drop i ∨ τ ∈ B.drop j) (hp : i + j < i' + j')
    (hr : (want (odd i') (odd j') ≠ odd r.length ∧ r' = r ++ [τ]) ∨ (want (odd i') (odd j') = odd r.length ∧ r' = r)) : Swp want A B i' j' r' := by
  have old : ∀ x, (x ∈ r ∨ x ∈ A.take i ∨ x ∈ B.take j) → x < τ := fun x hx => S.sep x hx τ hτ
  have hr' : ∀ x ∈ r', x ∈ r ∨ x = τ := by
    intro x hx
    rcases hr with ⟨_, rfl⟩ | ⟨_, rfl⟩
    · simpa using hx
    · exact .inl hx
  have par : odd r'.length = want (odd i') (odd j') := by
    rcases hr with ⟨h, rfl⟩ | ⟨h, rfl⟩
    · simp only [List.length_append, List.length_singleton, odd_succ]
      revert h
      cases odd r.length <;> cases want (odd i') (odd j') <;> simp
    · exact h.symm
  have hi' := stp_le hi S.hi
  have hj' := stp_le hj S.hj
  refine ⟨hi', hj', ?_, ?_, par, ?_, ?_, ?_⟩
  · intro x hx y hy
    have hxx : (x ∈ r ∨ x ∈ A.take i ∨ x ∈ B.take j) ∨ x = τ := by
      rcases hx with hx | hx | hx
      · rcases hr' x hx with h | h
        · exact .inl (.inl h)
        · exact .inr h
      · rcases stp_mem hi hx with h | h
        · exact .inl (.inr (.inl h))
        · exact .inr h
      · rcases stp_mem hj hx with h | h
        · exact .inl (.inr (.inr h))
        · exact .inr h
    have hτy : τ < y := by
      rcases hy with hy | hy
      · exact stp_lt sA hi hy
      · exact stp_lt sB hj hy
    rcases hxx with hxx | rfl
    · have := old x hxx; omega
    · exact hτy
  · rcases hr with ⟨_, rfl⟩ | ⟨_, rfl⟩
    · rw [List.pairwise_append]
      exact ⟨S.inc, List.pairwise_singleton _ _, fun a ha b hb => by simp at hb; subst hb; exact old a (.inl ha)⟩
    · exact S.inc
  · intro t
    by_cases ht : t < τ
    · rw [stp_cnt_lt hi ht, stp_cnt_lt hj ht, ← S.pts t]
      rcases hr with ⟨_, rfl⟩ | ⟨_, rfl⟩
      · rw [cnt_append, cnt_none (l := [τ]) (by simpa using ht)]; rfl
      · rfl
    · have e1 : cnt (A.take i') t = i' := by
        rw [cnt_all, List.length_take]
        · omega
        · intro x hx
          rcases stp_mem hi hx with h | h
          · have := old x (.inr (.inl h)); omega
          · omega
      have e2 : cnt (B.take j') t = j' := by
        rw [cnt_all, List.length_take]
        · omega
        · intro x hx
          rcases stp_mem hj hx with h | h
          · have := old x (.inr (.inr h)); omega
          · omega
      have e3 : cnt r' t = r'.length := by
        refine cnt_all fun x hx => ?_
        rcases hr' x hx with h | h
        · have := old x (.inl h); omega
        · omega
      rw [e1, e2, e3]
      exact par
  · have := S.len
    rcases hr with ⟨_, rfl⟩ | ⟨_, rfl⟩
    · simp only [List.length_append, List.length_singleton]; omega
    · omega
  · intro x hx
    rcases hr' x hx with h | rfl
    · exact S.near x h
    · exact hn

theorem swp_put {want : Bool → Bool → Bool} {A B : List Int} {i j i' j' : Nat} {r : List Int} {τ : Int} {x y z : Bool} (S : Swp want A B i j r) (sA : A.Pairwise (· < ·)) (sB : B.Pairwise (· < ·)) (hn : nearB τ)
    (hi : Stp A i i' τ) (hj : Stp B j j' τ) (hτ : τ ∈ A.drop i ∨ τ ∈ B.drop j) (hp : i + j < i' + j') (hx : x = odd i') (hy : y = odd j') (hz : z = odd r.length) (h : (!want x y == z) = true) : Swp want A B i' j' (r ++ [τ]) := by
  subst hx hy hz
  exact swp_step S sA sB hn hi hj hτ hp (.inl ⟨by simpa using h, rfl⟩)
theorem swp_skip {want : Bool → Bool → Bool} {A B : List Int} {i j i' j' : Nat} {r : List Int} {τ : Int} {x y z : Bool} (S : Swp want A B i j r) (sA : A.Pairwise (· < ·)) (sB : B.Pairwise (· < ·)) (hn : nearB τ)
    (hi : Stp A i i' τ) (hj : Stp B j j' τ) (hτ : τ ∈ A.drop i ∨ τ ∈ B.drop j) (hp : i + j < i' + j') (hx : x = odd i') (hy : y = odd j') (hz : z = odd r.length) (h : (!want x y == z) = false) : Swp want A B i' j' r := by
  subst hx hy hz
  exact swp_step S sA sB hn hi hj hτ hp (.inr ⟨by simpa using h, rfl⟩)
theorem stp_yes {A : List Int} {i : Nat} {τ : Int} (h : i < A.length) (e : A[i] = τ) : Stp A i (i + 1) τ := .inl ⟨rfl, by rw [List.getElem?_eq_getElem h, e]⟩
theorem stp_past {A : List Int} {i : Nat} {τ : Int} (h : A.length ≤ i) : Stp A i i τ := .inr ⟨rfl, fun y hy => by rw [List.drop_eq_nil_of_le h] at hy; cases hy⟩
theorem stp_no {A : List Int} {i : Nat} {τ : Int} (sA : A.Pairwise (· < ·)) (h : i < A.length) (e : τ < A[i]) : Stp A i i τ := by
  refine .inr ⟨rfl, fun y hy => ?_⟩
  have sd := sA.sublist (List.drop_sublist i A)
  rw [List.drop_eq_getElem_cons h] at hy sd
  rw [List.pairwise_cons] at sd
  simp only [List.mem_cons] at hy
  rcases hy with rfl | hy
  · exact e
  · have := sd.1 y hy; omega
theorem mem_drop_get {A : List Int} {i : Nat} (h : i < A.length) : A[i] ∈ A.drop i := by
  rw [List.drop_eq_getElem_cons h]; exact List.mem_cons_self

/-- does a set have a time? -/
def has (l : List (Int × Int)) (t : Int) : Bool := l.any fun p => decide (p.1 ≤ t) && decide (t < p.2)
theorem has_nil (t : Int) : has [] t = false := rfl
theorem has_cons (p : Int × Int) (l : List (Int × Int)) (t : Int) : has (p :: l) t = ((decide (p.1 ≤ t) && decide (t < p.2)) || has l t) := rfl

theorem has_append (a b : List (Int × Int)) (t : Int) : has (a ++ b) t = (has a t || has b t) := by simp [has]
theorem has_take_no {l : List (Int × Int)} {k : Nat} {t : Int} (hk : k < l.length) (h : has (l.take k) t = false) (hn : ¬ (l[k].1 ≤ t ∧ t < l[k].2)) : has (l.take (k + 1)) t = false := by
  rw [take_succ_get l k hk, has_append, h, has_cons, has_nil]
  simp only [Bool.false_or, Bool.or_false, Bool.and_eq_false_iff, decide_eq_false_iff_not]
  omega
theorem has_take_yes {l : List (Int × Int)} {k : Nat} {t : Int} (hk : k < l.length) (h1 : l[k].1 ≤ t) (h2 : t < l[k].2) : has l t = true := by
  unfold has
  rw [List.any_eq_true]
  exact ⟨l[k], List.getElem_mem hk, by simp [h1, h2]⟩

/-- how many times a list of intervals tells -/
def size (l : List (Int × Int)) : Int := (l.map fun p => p.2 - p.1).sum
theorem size_nil : size [] = 0 := rfl
theorem size_cons (p : Int × Int) (l : List (Int × Int)) : size (p :: l) = (p.2 - p.1) + size l := by simp [size]
theorem size_append (a b : List (Int × Int)) : size (a ++ b) = size a + size b := by
  induction a with
  | nil => simp [size_nil]
  | cons p a ih => rw [List.cons_append, size_cons, size_cons, ih]; omega
theorem size_take_succ {l : List (Int × Int)} {k : Nat} (hk : k < l.length) : size (l.take (k + 1)) = size (l.take k) + (l[k].2 - l[k].1) := by
  rw [take_succ_get l k hk, size_append, size_cons, size_nil]; omega
theorem size_take_bd {l : List (Int × Int)} (hn : Near l l.length) (k : Nat) (hk : k ≤ l.length) : -2000000000 * (k : Int) ≤ size (l.take k) ∧ size (l.take k) ≤ 2000000000 * (k : Int) := by
  induction k with
  | zero => simp [size_nil]
  | succ k ih =>
    have h1 := ih (by omega)
    have h2 := hn k (by omega)
    have hlt : k < l.length := by omega
    rw [List.getD_eq_getElem?_getD, List.getElem?_eq_getElem hlt] at h2
    simp only [Option.getD_some, nearB] at h2
    rw [size_take_succ hlt]
    omega

/-- a set: its ends rise -/
def Canon (l : List (Int × Int)) : Prop := (flat l).Pairwise (· < ·)

theorem canon_has {l : List (Int × Int)} (h : Canon l) (t : Int) : has l t = odd (cnt (flat l) t) := by
  induction l with
  | nil => rfl
  | cons p l ih =>
    unfold Canon at h
    rw [flat_cons, List.pairwise_cons, List.pairwise_cons] at h
    obtain ⟨h1, h2, h3⟩ := h
    have hp := h1 p.2 (by simp)
    have ih' := ih h3
    rw [flat_cons, cnt_cons, cnt_cons, has_cons, ih']
    by_cases a : p.1 ≤ t
    · by_cases b : p.2 ≤ t
      · rw [if_pos a, if_pos b, odd_succ, odd_succ]
        have : decide (t < p.2) = false := by simp; omega
        simp [this]
      · have c0 : cnt (flat l) t = 0 := cnt_none fun x hx => by have := h2 x hx; omega
        rw [if_pos a, if_neg b, c0]
        have : decide (t < p.2) = true := by simp; omega
        simp [a, this, odd]
    · have c0 : cnt (flat l) t = 0 := cnt_none fun x hx => by have := h2 x hx; omega
      rw [if_neg a, if_neg (by omega), c0]
      simp [a, odd_zero]

theorem inc_unique {R S : List Int} (hR : R.Pairwise (· < ·)) (hS : S.Pairwise (· < ·)) (h : ∀ t, odd (cnt R t) = odd (cnt S t)) : R = S := by
  induction R generalizing S with
  | nil =>
    cases S with
    | nil => rfl
    | cons y S =>
      rw [List.pairwise_cons] at hS
      have := h y
      rw [cnt_cons, cnt_none (l := S) hS.1, if_pos (Int.le_refl _)] at this
      simp [cnt_nil, odd] at this
  | cons x R ih =>
    rw [List.pairwise_cons] at hR
    cases S with
    | nil =>
      have := h x
      rw [cnt_cons, cnt_none (l := R) hR.1, if_pos (Int.le_refl _)] at this
      simp [cnt_nil, odd] at this
    | cons y S =>
      rw [List.pairwise_cons] at hS
      have hxy : x = y := by
        by_cases a : x < y
        · have := h x
          rw [cnt_cons, cnt_cons, cnt_none (l := R) hR.1, if_pos (Int.le_refl _), cnt_none (l := S) (fun z hz => by have := hS.1 z hz; omega), if_neg (by omega)] at this
          simp [odd] at this
        · by_cases b : y < x
          · have := h y
            rw [cnt_cons, cnt_cons, cnt_none (l := S) hS.1, if_pos (Int.le_refl _), cnt_none (l := R) (fun z hz => by have := hR.1 z hz; omega), if_neg (by omega)] at this
            simp [odd] at this
          · omega
      subst hxy
      rw [ih hR.2 hS.2]
      intro t
      have := h t
      rw [cnt_cons, cnt_cons] at this
      by_cases a : x ≤ t
      · rw [if_pos a, odd_succ, odd_succ] at this
        simpa using this
      · rw [if_neg a] at this
        exact this

theorem flat_inj {a b : List (Int × Int)} (h : flat a = flat b) : a = b := by
  induction a generalizing b with
  | nil =>
    cases b with
    | nil => rfl
    | cons q b => rw [flat_cons] at h; cases h
  | cons p a ih =>
    cases b with
    | nil => rw [flat_cons] at h; cases h
    | cons q b =>
      rw [flat_cons, flat_cons] at h
      injection h with h1 h2
      injection h2 with h2 h3
      rw [ih h3, Prod.ext h1 h2]

theorem canon_unique {a b : List (Int × Int)} (ha : Canon a) (hb : Canon b) (h : ∀ t, has a t = has b t) : a = b :=
  flat_inj (inc_unique ha hb fun t => by rw [← canon_has ha, ← canon_has hb]; exact h t)

/-- pairs of numbers that follow each other -/
def pairs : List Int → List (Int × Int)
  | x :: y :: l => (x, y) :: pairs l
  | _ => []
theorem flat_pairs (r : List Int) (h : odd r.length = false) : flat (pairs r) = r := by
  match r, h with
  | [], _ => rfl
  | [x], h => simp [odd] at h
  | x :: y :: l, h =>
    have := flat_pairs l (by simp only [List.length_cons, odd_succ] at h; simpa using h)
    rw [pairs, flat_cons, this]
theorem pairs_flat (l : List (Int × Int)) : pairs (flat l) = l := by
  induction l with
  | nil => rfl
  | cons p l ih => rw [flat_cons, pairs, ih]

/-- what both sets come to -/
structure SetIs (want : Bool → Bool → Bool) (a b r : List (Int × Int)) : Prop where
  canon : Canon r
  pts : ∀ t, has r t = want (has a t) (has b t)
  len : r.length ≤ a.length + b.length
  near : ∀ x ∈ flat r, nearB x

theorem setIs_of_swp {want : Bool → Bool → Bool} (hw : want false false = false) {a b : List (Int × Int)} {r : List Int} (ha : Canon a) (hb : Canon b) (S : Swp want (flat a) (flat b) (flat a).length (flat b).length r) :
    odd r.length = false ∧ SetIs want a b (pairs r) := by
  have he : odd r.length = false := by
    have := S.par
    rw [flat_length, flat_length, odd_two, odd_two, hw] at this
    exact this
  have hf := flat_pairs r he
  have hc : Canon (pairs r) := by unfold Canon; rw [hf]; exact S.inc
  refine ⟨he, hc, fun t => ?_, ?_, by rw [hf]; exact S.near⟩
  · have := S.pts t
    rw [List.take_length, List.take_length] at this
    rw [canon_has hc, hf, canon_has ha, canon_has hb]
    exact this
  · have h1 := S.len
    have h2 := flat_length (pairs r)
    rw [hf] at h2
    rw [flat_length, flat_length] at h1
    omega

theorem setIs_unique {want : Bool → Bool → Bool} {a b r s : List (Int × Int)} (h : SetIs want a b r) (hs : Canon s) (hp : ∀ t, has s t = want (has a t) (has b t)) : r = s :=
  canon_unique h.canon hs fun t => by rw [h.pts, hp]

theorem form_tail {p : Int × Int} {l : List (Int × Int)} (h : Form (p :: l) (l.length + 1)) : Form l l.length := by
  intro i hi
  have := h (i + 1) (by omega)
  refine ⟨by simpa using this.1, fun h0 => ?_⟩
  have h2 := this.2 (by omega)
  rw [show i + 1 - 1 = (i - 1) + 1 by omega] at h2
  simpa using h2

theorem canon_of_form {l : List (Int × Int)} (h : Form l l.length) : Canon l := by
  unfold Canon
  induction l with
  | nil => exact List.Pairwise.nil
  | cons p l ih =>
    have ih' := ih (form_tail h)
    have h0 := (h 0 (by simp)).1
    simp at h0
    have h1 : ∀ x ∈ flat l, p.2 < x := by
      cases l with
      | nil => simp [flat]
      | cons q l =>
        have hq := (h 1 (by simp)).2 (by omega)
        simp at hq
        rw [flat_cons] at ih' ⊢
        intro x hx
        rw [List.pairwise_cons] at ih'
        simp only [List.mem_cons] at hx
        rcases hx with rfl | hx
        · exact hq
        · have := ih'.1 x (by simpa using hx); omega
    rw [flat_cons, List.pairwise_cons, List.pairwise_cons]
    refine ⟨fun x hx => ?_, h1, ih'⟩
    simp only [List.mem_cons] at hx
    rcases hx with rfl | hx
    · exact h0
    · have := h1 x hx; omega

theorem form_of_canon {l : List (Int × Int)} (h : Canon l) : Form l l.length := by
  unfold Canon at h
  rw [List.pairwise_iff_getElem] at h
  intro i hi
  have hl := flat_length l
  obtain ⟨f0, f1⟩ := flat_getD l i hi
  obtain ⟨g0, f0⟩ := List.getElem?_eq_some_iff.1 f0
  obtain ⟨g1, f1⟩ := List.getElem?_eq_some_iff.1 f1
  refine ⟨?_, fun h0 => ?_⟩
  · rw [← f0, ← f1]; exact h _ _ g0 g1 (by omega)
  · obtain ⟨_, e1⟩ := flat_getD l (i - 1) (by omega)
    obtain ⟨k1, e1⟩ := List.getElem?_eq_some_iff.1 e1
    rw [← f0, ← e1]
    exact h _ _ k1 g0 (by omega)

theorem near_flat {l : List (Int × Int)} (h : Near l l.length) : ∀ x ∈ flat l, nearB x := by
  induction l with
  | nil => simp [flat]
  | cons p l ih =>
    have ih' := ih (fun i hi => by simpa using h (i + 1) (by simpa using hi))
    have h0 := h 0 (by simp)
    simp at h0
    rw [flat_cons]
    intro x hx
    simp only [List.mem_cons] at hx
    rcases hx with rfl | rfl | hx
    · exact h0.1
    · exact h0.2
    · exact ih' x hx

theorem near_of_flat {l : List (Int × Int)} (h : ∀ x ∈ flat l, nearB x) : Near l l.length := by
  intro i hi
  obtain ⟨f0, f1⟩ := flat_getD l i hi
  exact ⟨h _ (List.mem_of_getElem? f0), h _ (List.mem_of_getElem? f1)⟩

theorem chk_of_canon {l : List (Int × Int)} (hc : Canon l) (hn : ∀ x ∈ flat l, nearB x) (hl : l.length ≤ 200) : chk l = 0 :=
  chk_ok hl (near_of_flat hn) (form_of_canon hc)

end Go.Proofs.Ytanbbkoleekmjag

namespace Go.Proofs.Ytanbbkoleekmjag
open Go.RowKit

theorem ret_slice {ao : Option Addr} {n m n' m' : Nat} (h : n = n') (h' : m = m') : Ending.returned (.slice ao n m) = .returned (.slice ao n' m') := by rw [h, h']

/-- the pairs of l lie at ao, two cells each -/
def IvAt (w : World) (ao : Option Addr) (l : List (Int × Int)) : Prop :=
  l = [] ∨ ∃ b off, ao = some ⟨b, off, none⟩ ∧ b < w.heap.size ∧ ∀ j, j < l.length → w.cell? ⟨b, off + j * 2, none⟩ = some (.int .i64 (l.getD j (0, 0)).1) ∧ w.cell? ⟨b, off + j * 2 + 1, none⟩ = some (.int .i64 (l.getD j (0, 0)).2)

/-- the numbers of l lie at ao -/
def ZsAt (w : World) (ao : Option Addr) (l : List Int) : Prop :=
  l = [] ∨ ∃ b off, ao = some ⟨b, off, none⟩ ∧ b < w.heap.size ∧ ∀ j, j < l.length → w.cell? ⟨b, off + j, none⟩ = some (.int .i64 (l.getD j 0))

theorem IvAt.below {w w' : World} {ao : Option Addr} {l : List (Int × Int)} (h : IvAt w ao l) (hb : Below w.heap.size w w') : IvAt w' ao l := by
  rcases h with h | ⟨b, off, rfl, hlt, hc⟩
  · exact .inl h
  · refine .inr ⟨b, off, rfl, Nat.lt_of_lt_of_le hlt hb.size, fun j hj => ?_⟩
    rw [hb.cell (p := ⟨b, off + j * 2, none⟩) hlt, hb.cell (p := ⟨b, off + j * 2 + 1, none⟩) hlt]
    exact hc j hj

theorem ZsAt.below {w w' : World} {ao : Option Addr} {l : List Int} (h : ZsAt w ao l) (hb : Below w.heap.size w w') : ZsAt w' ao l := by
  rcases h with h | ⟨b, off, rfl, hlt, hc⟩
  · exact .inl h
  · refine .inr ⟨b, off, rfl, Nat.lt_of_lt_of_le hlt hb.size, fun j hj => ?_⟩
    rw [hb.cell (p := ⟨b, off + j, none⟩) hlt]
    exact hc j hj


theorem Try.infoInt : (Try.prog.info? 3).map (fun i => (i.zero, i.size, i.bytes)) = some (some (.int .i64 0), 1, 8) := by kernel_rfl
theorem Try.infoIvl : (Try.prog.info? 55).map (fun i => (i.zero, i.size, i.bytes)) = some (some (.agg #[.int .i64 0, .int .i64 0]), 2, 16) := by kernel_rfl

/-- what a row of numbers that the call owns holds -/
theorem zsAt_of_owns {w : World} {base e : Nat} {v : Value} {n : Nat} {l : List Int} (h : w.ownsRow base e 1 v n (l.map (Value.int .i64))) : ∃ ao cap, v = .slice ao l.length cap ∧ ZsAt w ao l := by
  obtain ⟨h1, h2⟩ := h
  simp only [List.length_map, Nat.mul_one] at h1
  subst h1
  rcases h2 with ⟨rfl, h0⟩ | ⟨g, cap, cur, rfl, hb, hh, h3, h4, h5, h6⟩
  · exact ⟨none, 0, by rw [h0], .inl (List.eq_nil_of_length_eq_zero h0)⟩
  · refine ⟨_, cap, rfl, .inr ⟨g, 0, rfl, (Array.getElem?_eq_some_iff.1 hh).1, fun j hj => ?_⟩⟩
    have := World.ownsRow.cellAt (w := w) (base := base) (e := e) (size := 1) (xs := l.map (Value.int .i64)) ⟨by simp, .inr ⟨g, cap, cur, rfl, hb, hh, h3, h4, h5, h6⟩⟩ j (by omega)
    rw [Nat.zero_add, this, List.getElem?_map, List.getD_eq_getElem?_getD, List.getElem?_eq_getElem hj]
    rfl

/-- the cells of pairs -/
def encs (l : List (Int × Int)) : List Value := (flat l).map (Value.int .i64)

/-- what a row of pairs that the call owns holds -/
theorem ivAt_of_owns {w : World} {base e : Nat} {v : Value} {n : Nat} {l : List (Int × Int)} (h : w.ownsRow base e 2 v n (encs l)) : ∃ ao cap, v = .slice ao l.length cap ∧ IvAt w ao l := by
  obtain ⟨h1, h2⟩ := h
  simp only [encs, List.length_map, flat_length] at h1
  have hn : n = l.length := by omega
  subst hn
  rcases h2 with ⟨rfl, h0⟩ | ⟨g, cap, cur, rfl, hb, hh, h3, h4, h5, h6⟩
  · exact ⟨none, 0, by rw [h0], .inl (List.eq_nil_of_length_eq_zero h0)⟩
  · have hown : w.ownsRow base e 2 (.slice (some ⟨g, 0, none⟩) l.length cap) l.length (encs l) := ⟨by simp [encs, flat_length]; omega, .inr ⟨g, cap, cur, rfl, hb, hh, h3, h4, h5, h6⟩⟩
    refine ⟨_, cap, rfl, .inr ⟨g, 0, rfl, (Array.getElem?_eq_some_iff.1 hh).1, fun j hj => ?_⟩⟩
    obtain ⟨f0, f1⟩ := flat_getD l j hj
    rw [Nat.zero_add, hown.cellAt (j * 2) (by omega), hown.cellAt (j * 2 + 1) (by omega)]
    simp only [encs, List.getElem?_map, f0, f1]
    exact ⟨rfl, rfl⟩

/-- an owned row stays while nothing below the heap's size turns -/
theorem ownsRow_below {w w' : World} {base e size : Nat} {v : Value} {n : Nat} {xs : List Value} (h : w.ownsRow base e size v n xs) (hb : Below w.heap.size w w') : w'.ownsRow base e size v n xs :=
  h.kept (row := none) ⟨hb.os, hb.tape, hb.output, hb.size, fun k hk _ => hb.block k hk⟩ (by cases v.ownBlock <;> simp)

/-- two cells in a new block -/
theorem cells_two_new (w : World) (B : Nat) (t : TypeId) (x y : Value) (hB : B = w.heap.size) : ∀ j u, [x, y][j]? = some u → (w.alloc (.cells #[x, y] t)).cell? ((⟨B, 0, none⟩ : Addr).add j) = some u := by
  subst hB
  intro j u hj
  match j, hj with
  | 0, hj => simp at hj; subst hj; simp [Addr.add]
  | 1, hj => simp at hj; subst hj; simp [Addr.add]

/-- what a call that tells a set and an error hands back: the error n with nothing, or a set -/
def Told (w w' : World) (e : Ending) (n : Int) (r : List (Int × Int)) : Prop :=
  ∃ ao cap, e = .returned (.tuple #[.slice ao r.length cap, .int .i64 n]) ∧ IvAt w' ao r ∧ Below w.heap.size w w'

/-- the same, in memory of the call's own -/
def Told2 (w w' : World) (e : Ending) (n : Int) (r : List (Int × Int)) : Prop :=
  ∃ v, e = .returned (.tuple #[v, .int .i64 n]) ∧ w'.ownsRow w.heap.size 55 2 v r.length (encs r) ∧ Below w.heap.size w w'
theorem told_of_own {w w' : World} {e : Ending} {n : Int} {r : List (Int × Int)} (h : Told2 w w' e n r) : Told w w' e n r := by
  obtain ⟨v, he, ho, hb⟩ := h
  obtain ⟨ao, cap, rfl, hz⟩ := ivAt_of_owns ho
  exact ⟨ao, cap, he, hz, hb⟩
theorem nil2 (w W : World) : W.ownsRow w.heap.size 55 2 (.slice none 0 0) ([] : List (Int × Int)).length (encs []) := World.ownsRow_nil _ _ _ _
theorem owns_base2 {w : World} {base base' e size : Nat} {v : Value} {n : Nat} {xs : List Value} (h : w.ownsRow base e size v n xs) (hb : base' ≤ base) : w.ownsRow base' e size v n xs :=
  ⟨h.1, h.2.imp id (fun ⟨g, c, cur, h1, h2, h3⟩ => ⟨g, c, cur, h1, Nat.le_trans hb h2, h3⟩)⟩
theorem hide2 {p : Prop} (h : p) : Hid p := h

end Go.Proofs.Ytanbbkoleekmjag

namespace Go.Proofs.Ytanbbkoleekmjag

/-- a leg: From, To, Time, Cost -/
abbrev Lg := Int × Int × Int × Int
/-- an edge: A, B, its legs -/
abbrev Ed := Int × Int × List Lg
/-- a graph -/
structure Gr where
  hor : Int
  lives : List (Int × Int)
  edges : List Ed

/-- is n from lo to hi? -/
def inR (n lo hi : Int) : Bool := decide (lo ≤ n) && decide (n ≤ hi)
/-- are the times from a to b some, and times of the graph? -/
def spanB (a b h : Int) : Bool := decide (0 ≤ a) && (decide (a < b) && decide (b ≤ h))
/-- is the leg one? -/
def fitB (l : Lg) (h : Int) : Bool := spanB l.1 l.2.1 h && (inR l.2.2.1 1 50 && inR l.2.2.2 0 1000)

/-- legs, behind a leg that ends at p -/
def lgChk (h p : Int) : List Lg → Int
  | [] => 0
  | l :: ls => if fitB l h = false then 1 else if l.1 < p then 5 else lgChk h l.2.1 ls
/-- an edge -/
def edChk (h n : Int) (e : Ed) : Int := if (inR e.1 0 (n - 1) && inR e.2.1 0 (n - 1)) = false then 4 else if 6 < e.2.2.length then 2 else lgChk h 0 e.2.2
def edsChk (h n : Int) : List Ed → Int
  | [] => 0
  | e :: es => if edChk h n e = 0 then edsChk h n es else edChk h n e
def lvChk (h : Int) : List (Int × Int) → Int
  | [] => 0
  | p :: ps => if spanB p.1 p.2 h = true then lvChk h ps else 1
/-- what Check answers -/
def gChk (g : Gr) : Int :=
  if inR g.hor 1 100 = false then 1 else if 12 < g.lives.length ∨ 30 < g.edges.length then 2 else if lvChk g.hor g.lives ≠ 0 then 1 else edsChk g.hor g.lives.length g.edges

theorem inR_iff (n lo hi : Int) : inR n lo hi = true ↔ lo ≤ n ∧ n ≤ hi := by unfold inR; simp
theorem inR_no {n lo hi : Int} (h : ¬ (lo ≤ n ∧ n ≤ hi)) : inR n lo hi = false := by rw [← Bool.not_eq_true, inR_iff]; exact h
theorem spanB_iff (a b h : Int) : spanB a b h = true ↔ 0 ≤ a ∧ a < b ∧ b ≤ h := by unfold spanB; simp
theorem spanB_no {a b h : Int} (k : ¬ (0 ≤ a ∧ a < b ∧ b ≤ h)) : spanB a b h = false := by rw [← Bool.not_eq_true, spanB_iff]; exact k
theorem fitB_iff (l : Lg) (h : Int) : fitB l h = true ↔ (0 ≤ l.1 ∧ l.1 < l.2.1 ∧ l.2.1 ≤ h) ∧ (1 ≤ l.2.2.1 ∧ l.2.2.1 ≤ 50) ∧ (0 ≤ l.2.2.2 ∧ l.2.2.2 ≤ 1000) := by
  unfold fitB; rw [Bool.and_eq_true, Bool.and_eq_true, spanB_iff, inR_iff, inR_iff]

theorem lgChk_cases (h : Int) : ∀ (l : List Lg) (p : Int), lgChk h p l = 0 ∨ lgChk h p l = 1 ∨ lgChk h p l = 5
  | [], p => .inl rfl
  | l :: ls, p => by
    unfold lgChk
    split
    · exact .inr (.inl rfl)
    · split
      · exact .inr (.inr rfl)
      · exact lgChk_cases h ls _
theorem edChk_cases (h n : Int) (e : Ed) : edChk h n e = 0 ∨ edChk h n e = 1 ∨ edChk h n e = 2 ∨ edChk h n e = 4 ∨ edChk h n e = 5 := by
  unfold edChk
  split
  · simp
  · split
    · simp
    · rcases lgChk_cases h e.2.2 0 with k | k | k <;> simp [k]
theorem edsChk_cases (h n : Int) : ∀ l : List Ed, edsChk h n l = 0 ∨ edsChk h n l = 1 ∨ edsChk h n l = 2 ∨ edsChk h n l = 4 ∨ edsChk h n l = 5
  | [] => .inl rfl
  | e :: es => by
    unfold edsChk
    split
    · exact edsChk_cases h n es
    · exact edChk_cases h n e
theorem lvChk_cases (h : Int) : ∀ l : List (Int × Int), lvChk h l = 0 ∨ lvChk h l = 1
  | [] => .inl rfl
  | p :: ps => by
    unfold lvChk
    split
    · exact lvChk_cases h ps
    · exact .inr rfl
theorem gChk_cases (g : Gr) : gChk g = 0 ∨ gChk g = 1 ∨ gChk g = 2 ∨ gChk g = 4 ∨ gChk g = 5 := by
  unfold gChk
  split
  · simp
  · split
    · simp
    · split
      · simp
      · exact edsChk_cases _ _ _

theorem drop_get {α : Type} (l : List α) (k : Nat) (h : k < l.length) : l.drop k = l[k] :: l.drop (k + 1) := (List.drop_eq_getElem_cons h)

/-- the To of the leg ahead of leg k; 0 ahead of the first -/
def prevTo (l : List Lg) : Nat → Int
  | 0 => 0
  | k + 1 => (l.getD k (0, 0, 0, 0)).2.1

theorem lg_bad {h : Int} {l : List Lg} {k : Nat} (hk : k < l.length) (hI : lgChk h 0 l = lgChk h (prevTo l k) (l.drop k)) (hf : fitB l[k] h = false) : lgChk h 0 l = 1 := by
  rw [hI, drop_get l k hk, lgChk, if_pos hf]
theorem lg_form {h : Int} {l : List Lg} {k : Nat} (hk : k < l.length) (hI : lgChk h 0 l = lgChk h (prevTo l k) (l.drop k)) (hf : fitB l[k] h = true) (hp : l[k].1 < prevTo l k) : lgChk h 0 l = 5 := by
  rw [hI, drop_get l k hk, lgChk, if_neg (by simp [hf]), if_pos hp]
theorem lg_next {h : Int} {l : List Lg} {k : Nat} (hk : k < l.length) (hI : lgChk h 0 l = lgChk h (prevTo l k) (l.drop k)) (hf : fitB l[k] h = true) (hp : ¬ l[k].1 < prevTo l k) : lgChk h 0 l = lgChk h (prevTo l (k + 1)) (l.drop (k + 1)) := by
  rw [hI, drop_get l k hk, lgChk, if_neg (by simp [hf]), if_neg hp]
  simp [prevTo, List.getD_eq_getElem?_getD, List.getElem?_eq_getElem hk]
theorem lg_end {h : Int} {l : List Lg} (hI : lgChk h 0 l = lgChk h (prevTo l l.length) (l.drop l.length)) : lgChk h 0 l = 0 := by
  rw [hI, List.drop_length]; rfl
theorem prevTo_succ {l : List Lg} {k : Nat} (hk : k < l.length) : prevTo l (k + 1) = l[k].2.1 := by
  simp [prevTo, List.getD_eq_getElem?_getD, List.getElem?_eq_getElem hk]

theorem eds_stop {h n : Int} {l : List Ed} {k : Nat} (hk : k < l.length) (hI : edsChk h n l = edsChk h n (l.drop k)) (he : edChk h n l[k] ≠ 0) : edsChk h n l = edChk h n l[k] := by
  rw [hI, drop_get l k hk, edsChk, if_neg he]
theorem eds_next {h n : Int} {l : List Ed} {k : Nat} (hk : k < l.length) (hI : edsChk h n l = edsChk h n (l.drop k)) (he : edChk h n l[k] = 0) : edsChk h n l = edsChk h n (l.drop (k + 1)) := by
  rw [hI, drop_get l k hk, edsChk, if_pos he]
theorem eds_end {h n : Int} {l : List Ed} (hI : edsChk h n l = edsChk h n (l.drop l.length)) : edsChk h n l = 0 := by
  rw [hI, List.drop_length]; rfl
theorem lv_stop {h : Int} {l : List (Int × Int)} {k : Nat} (hk : k < l.length) (hI : lvChk h l = lvChk h (l.drop k)) (he : spanB l[k].1 l[k].2 h = false) : lvChk h l = 1 := by
  rw [hI, drop_get l k hk, lvChk, if_neg (by simp [he])]
theorem lv_next {h : Int} {l : List (Int × Int)} {k : Nat} (hk : k < l.length) (hI : lvChk h l = lvChk h (l.drop k)) (he : spanB l[k].1 l[k].2 h = true) : lvChk h l = lvChk h (l.drop (k + 1)) := by
  rw [hI, drop_get l k hk, lvChk, if_pos he]
theorem lv_end {h : Int} {l : List (Int × Int)} (hI : lvChk h l = lvChk h (l.drop l.length)) : lvChk h l = 0 := by
  rw [hI, List.drop_length]; rfl

theorem gChk_hor {g : Gr} (h : inR g.hor 1 100 = false) : gChk g = 1 := by unfold gChk; rw [if_pos h]
theorem gChk_large {g : Gr} (h : inR g.hor 1 100 = true) (k : 12 < g.lives.length ∨ 30 < g.edges.length) : gChk g = 2 := by unfold gChk; rw [if_neg (by simp [h]), if_pos k]
theorem gChk_life {g : Gr} (h : inR g.hor 1 100 = true) (k : ¬ (12 < g.lives.length ∨ 30 < g.edges.length)) (l : lvChk g.hor g.lives = 1) : gChk g = 1 := by unfold gChk; rw [if_neg (by simp [h]), if_neg k, if_pos (by omega)]
theorem gChk_rest {g : Gr} (h : inR g.hor 1 100 = true) (k : ¬ (12 < g.lives.length ∨ 30 < g.edges.length)) (l : lvChk g.hor g.lives = 0) : gChk g = edsChk g.hor g.lives.length g.edges := by unfold gChk; rw [if_neg (by simp [h]), if_neg k, if_neg (by omega)]

/-- what a right graph is -/
structure Right (g : Gr) : Prop where
  hor : 1 ≤ g.hor ∧ g.hor ≤ 100
  lvs : g.lives.length ≤ 12
  eds : g.edges.length ≤ 30
  life : ∀ p ∈ g.lives, 0 ≤ p.1 ∧ p.1 < p.2 ∧ p.2 ≤ g.hor
  ends : ∀ e ∈ g.edges, (0 ≤ e.1 ∧ e.1 < g.lives.length) ∧ (0 ≤ e.2.1 ∧ e.2.1 < g.lives.length) ∧ e.2.2.length ≤ 6
  legs : ∀ e ∈ g.edges, ∀ l ∈ e.2.2, fitB l g.hor = true

theorem lv_all {h : Int} : ∀ {l : List (Int × Int)}, lvChk h l = 0 → ∀ p ∈ l, spanB p.1 p.2 h = true
  | [], _, p, hp => by simp at hp
  | q :: l, hl, p, hp => by
    unfold lvChk at hl
    by_cases hq : spanB q.1 q.2 h = true
    · rw [if_pos hq] at hl
      rcases List.mem_cons.1 hp with rfl | hp
      · exact hq
      · exact lv_all hl p hp
    · rw [if_neg hq] at hl; omega
theorem lg_all {h : Int} : ∀ {l : List Lg} {p : Int}, lgChk h p l = 0 → ∀ x ∈ l, fitB x h = true
  | [], _, _, x, hx => by simp at hx
  | q :: l, p, hl, x, hx => by
    unfold lgChk at hl
    by_cases hq : fitB q h = false
    · rw [if_pos hq] at hl; omega
    · rw [if_neg hq] at hl
      by_cases hp : q.1 < p
      · rw [if_pos hp] at hl; omega
      · rw [if_neg hp] at hl
        rcases List.mem_cons.1 hx with rfl | hx
        · simpa using hq
        · exact lg_all hl x hx
theorem eds_all {h n : Int} : ∀ {l : List Ed}, edsChk h n l = 0 → ∀ e ∈ l, edChk h n e = 0
  | [], _, e, he => by simp at he
  | q :: l, hl, e, he => by
    unfold edsChk at hl
    by_cases hq : edChk h n q = 0
    · rw [if_pos hq] at hl
      rcases List.mem_cons.1 he with rfl | he
      · exact hq
      · exact eds_all hl e he
    · rw [if_neg hq] at hl; exact absurd hl hq
theorem gChk_right {g : Gr} (h : gChk g = 0) : Right g := by
  unfold gChk at h
  by_cases h1 : inR g.hor 1 100 = false
  · rw [if_pos h1] at h; omega
  rw [if_neg h1] at h
  by_cases h2 : 12 < g.lives.length ∨ 30 < g.edges.length
  · rw [if_pos h2] at h; omega
  rw [if_neg h2] at h
  by_cases h3 : lvChk g.hor g.lives ≠ 0
  · rw [if_pos h3] at h; omega
  rw [if_neg h3] at h
  have e0 := eds_all h
  have hed : ∀ e ∈ g.edges, (0 ≤ e.1 ∧ e.1 < g.lives.length) ∧ (0 ≤ e.2.1 ∧ e.2.1 < g.lives.length) ∧ e.2.2.length ≤ 6 ∧ lgChk g.hor 0 e.2.2 = 0 := by
    intro e he
    have := e0 e he
    unfold edChk at this
    by_cases k1 : (inR e.1 0 (g.lives.length - 1) && inR e.2.1 0 (g.lives.length - 1)) = false
    · rw [if_pos k1] at this; omega
    rw [if_neg k1] at this
    by_cases k2 : 6 < e.2.2.length
    · rw [if_pos k2] at this; omega
    rw [if_neg k2] at this
    rw [Bool.not_eq_false, Bool.and_eq_true, inR_iff, inR_iff] at k1
    exact ⟨⟨k1.1.1, by omega⟩, ⟨k1.2.1, by omega⟩, by omega, this⟩
  refine ⟨(inR_iff _ _ _).1 (by simpa using h1), by omega, by omega, fun p hp => (spanB_iff _ _ _).1 (lv_all (by omega) p hp), fun e he => ?_, fun e he l hl => lg_all (hed e he).2.2.2 l hl⟩
  have := hed e he
  exact ⟨this.1, this.2.1, this.2.2.1⟩

end Go.Proofs.Ytanbbkoleekmjag

namespace Go.Proofs.Ytanbbkoleekmjag
open Go.RowKit

theorem ret_bool {a b : Bool} (h : a = b) : Ending.returned (.bool a) = .returned (.bool b) := by rw [h]
theorem ret_int {k : IntKind} {a b : Int} (h : a = b) : Ending.returned (.int k a) = .returned (.int k b) := by rw [h]

/-- is a number near? -/
def nrB (x : Int) : Bool := decide (-1000000000 ≤ x) && decide (x ≤ 1000000000)
theorem nrB_iff (x : Int) : nrB x = true ↔ nearB x := by unfold nrB nearB; simp only [Bool.and_eq_true, decide_eq_true_eq]
theorem nrB_all_no {l : List Int} {k : Nat} (hk : k < l.length) (h : ¬ nearB l[k]) : l.all nrB = false := by
  rw [← Bool.not_eq_true, List.all_eq_true]
  intro hh
  exact h ((nrB_iff _).1 (hh l[k] (List.getElem_mem hk)))
theorem nrB_take_succ {l : List Int} {k : Nat} (hk : k < l.length) (h0 : (l.take k).all nrB = true) (h : nearB l[k]) : (l.take (k + 1)).all nrB = true := by
  rw [take_succ_get l k hk, List.all_append, h0]
  simp [(nrB_iff _).2 h]

set_option maxHeartbeats 400000 in
/-- Near of the program: are all these numbers near? -/
theorem Near_any (ao : Option Addr) (cap : Nat) (l : List Int) (w : World) (hl : ZsAt w ao l) (hn : l.length ≤ 9223372036854775807) :
    Calls Try.prog 60 #[.slice ao l.length cap] w fun e w' => e = .returned (.bool (l.all nrB)) ∧ w' = w := by
  go_enter Try.func60, Try.ntmps60
  go_wp2
  go_loop [7] (fun i => ∃ k : Nat, k ≤ l.length ∧ i = .int .i64 k ∧ (l.take k).all nrB = true) (fun i => l.length - (intOf i).toNat)
  case atStart => exact ⟨0, Nat.zero_le _, rfl, rfl⟩
  case round =>
    obtain ⟨k, hk, rfl, hh⟩ := hrel
    have HH : Hid ((l.take k).all nrB = true) := hh
    clear hh
    by_cases hlt : k < l.length
    · rcases hl with h0 | ⟨b, off, rfl, hbw, hc⟩
      · subst h0; simp at hlt
      have c0 := hc k hlt
      have hg : l.getD k 0 = l[k] := by simp [List.getD_eq_getElem?_getD, List.getElem?_eq_getElem hlt]
      rw [hg] at c0
      clear hc hg
      by_cases g1 : l[k] < -1000000000
      · have HC : Hid (l.all nrB = false) := nrB_all_no hlt (by unfold nearB; omega)
        go_wp2
        go_ret
        exact ⟨ret_bool HC.out.symm, rfl⟩
      · by_cases g2 : l[k] > 1000000000
        · have HC : Hid (l.all nrB = false) := nrB_all_no hlt (by unfold nearB; omega)
          go_wp2
          go_ret
          exact ⟨ret_bool HC.out.symm, rfl⟩
        · have HC : Hid ((l.take (k + 1)).all nrB = true) := nrB_take_succ hlt HH.out (by unfold nearB; omega)
          go_wp2
          go_round
          case rel => exact ⟨k + 1, by omega, by go_num, HC.out⟩
          case measure => simp [intOf]; omega
    · have hkl : k = l.length := by omega
      subst hkl
      have HC : Hid (l.all nrB = true) := by have := HH.out; rwa [List.take_length] at this
      go_wp2
      go_ret
      exact ⟨ret_bool HC.out.symm, rfl⟩

theorem Near_two (B : Nat) (x y : Int) (w : World) (hB : B < w.heap.size) (c0 : w.cell? ⟨B, 0, none⟩ = some (.int .i64 x)) (c1 : w.cell? ⟨B, 1, none⟩ = some (.int .i64 y)) :
    Calls Try.prog 60 #[.slice (some ⟨B, 0, none⟩) 2 2] w fun e w' => e = .returned (.bool (nrB x && nrB y)) ∧ w' = w := by
  have h := Near_any (some ⟨B, 0, none⟩) 2 [x, y] w (.inr ⟨B, 0, rfl, hB, fun j hj => by
    match j, hj with
    | 0, _ => exact c0
    | 1, _ => exact c1⟩) (by simp)
  simpa using h

end Go.Proofs.Ytanbbkoleekmjag

namespace Go.Proofs.Ytanbbkoleekmjag
open Go.RowKit

end Go.Proofs.Ytanbbkoleekmjag

namespace Go.Proofs.Ytanbbkoleekmjag
open Go.RowKit

theorem ptg {a b c : World} (h1 : Below a.heap.size a b) (h2 : Below b.heap.size b c) : Below a.heap.size a c := h1.trans (h2.mono h1.size)
theorem gal (w : World) (o : Obj) : Below w.heap.size w (w.alloc o) := (Below.refl _ _).alloc (Nat.le_refl _) o
theorem hideg {p : Prop} (h : p) : Hid p := h

/-- legs lie at ao, four cells each -/
def LgAt (w : World) (ao : Option Addr) (m : List Lg) : Prop :=
  m = [] ∨ ∃ b off, ao = some ⟨b, off, none⟩ ∧ b < w.heap.size ∧ ∀ j, j < m.length → w.cell? ⟨b, off + j * 4, none⟩ = some (.int .i64 (m.getD j (0, 0, 0, 0)).1) ∧ w.cell? ⟨b, off + j * 4 + 1, none⟩ = some (.int .i64 (m.getD j (0, 0, 0, 0)).2.1) ∧ w.cell? ⟨b, off + j * 4 + 2, none⟩ = some (.int .i64 (m.getD j (0, 0, 0, 0)).2.2.1) ∧ w.cell? ⟨b, off + j * 4 + 3, none⟩ = some (.int .i64 (m.getD j (0, 0, 0, 0)).2.2.2)

theorem LgAt.below {w w' : World} {ao : Option Addr} {m : List Lg} (h : LgAt w ao m) (hb : Below w.heap.size w w') : LgAt w' ao m := by
  rcases h with h | ⟨b, off, rfl, hlt, hc⟩
  · exact .inl h
  · refine .inr ⟨b, off, rfl, Nat.lt_of_lt_of_le hlt hb.size, fun j hj => ?_⟩
    rw [hb.cell (p := ⟨b, off + j * 4, none⟩) hlt, hb.cell (p := ⟨b, off + j * 4 + 1, none⟩) hlt, hb.cell (p := ⟨b, off + j * 4 + 2, none⟩) hlt, hb.cell (p := ⟨b, off + j * 4 + 3, none⟩) hlt]
    exact hc j hj
theorem LgAt.get {w : World} {b off : Nat} {m : List Lg} {k : Nat} (hk : k < m.length) (hc : ∀ j, j < m.length → w.cell? ⟨b, off + j * 4, none⟩ = some (.int .i64 (m.getD j (0, 0, 0, 0)).1) ∧ w.cell? ⟨b, off + j * 4 + 1, none⟩ = some (.int .i64 (m.getD j (0, 0, 0, 0)).2.1) ∧ w.cell? ⟨b, off + j * 4 + 2, none⟩ = some (.int .i64 (m.getD j (0, 0, 0, 0)).2.2.1) ∧ w.cell? ⟨b, off + j * 4 + 3, none⟩ = some (.int .i64 (m.getD j (0, 0, 0, 0)).2.2.2)) :
    w.cell? ⟨b, off + k * 4, none⟩ = some (.int .i64 m[k].1) ∧ w.cell? ⟨b, off + k * 4 + 1, none⟩ = some (.int .i64 m[k].2.1) ∧ w.cell? ⟨b, off + k * 4 + 2, none⟩ = some (.int .i64 m[k].2.2.1) ∧ w.cell? ⟨b, off + k * 4 + 3, none⟩ = some (.int .i64 m[k].2.2.2) := by
  have := hc k hk
  rwa [List.getD_eq_getElem?_getD, List.getElem?_eq_getElem hk] at this
theorem IvAt.get {w : World} {b off : Nat} {m : List (Int × Int)} {k : Nat} (hk : k < m.length) (hc : ∀ j, j < m.length → w.cell? ⟨b, off + j * 2, none⟩ = some (.int .i64 (m.getD j (0, 0)).1) ∧ w.cell? ⟨b, off + j * 2 + 1, none⟩ = some (.int .i64 (m.getD j (0, 0)).2)) :
    w.cell? ⟨b, off + k * 2, none⟩ = some (.int .i64 m[k].1) ∧ w.cell? ⟨b, off + k * 2 + 1, none⟩ = some (.int .i64 m[k].2) := by
  have := hc k hk
  rwa [List.getD_eq_getElem?_getD, List.getElem?_eq_getElem hk] at this

/-- one edge lies at an address -/
def EdOne (w : World) (b off : Nat) (e : Ed) : Prop :=
  w.cell? ⟨b, off, none⟩ = some (.int .i64 e.1) ∧ w.cell? ⟨b, off + 1, none⟩ = some (.int .i64 e.2.1) ∧ ∃ la lc, w.cell? ⟨b, off + 2, none⟩ = some (.slice la e.2.2.length lc) ∧ LgAt w la e.2.2 ∧ e.2.2.length ≤ lc ∧ lc ≤ 9223372036854775807
/-- edges lie at ao, three cells each -/
def EdAt (w : World) (ao : Option Addr) (m : List Ed) : Prop :=
  m = [] ∨ ∃ b off, ao = some ⟨b, off, none⟩ ∧ b < w.heap.size ∧ ∀ j (h : j < m.length), EdOne w b (off + j * 3) m[j]

theorem EdOne.below {w w' : World} {b off : Nat} {e : Ed} (hlt : b < w.heap.size) (h : EdOne w b off e) (hb : Below w.heap.size w w') : EdOne w' b off e := by
  obtain ⟨h0, h1, la, lc, h2, hl, hn, hm⟩ := h
  exact ⟨by rw [hb.cell (p := ⟨b, off, none⟩) hlt, h0], by rw [hb.cell (p := ⟨b, off + 1, none⟩) hlt, h1], la, lc, by rw [hb.cell (p := ⟨b, off + 2, none⟩) hlt, h2], hl.below hb, hn, hm⟩
theorem EdAt.below {w w' : World} {ao : Option Addr} {m : List Ed} (h : EdAt w ao m) (hb : Below w.heap.size w w') : EdAt w' ao m := by
  rcases h with h | ⟨b, off, rfl, hlt, hc⟩
  · exact .inl h
  · exact .inr ⟨b, off, rfl, Nat.lt_of_lt_of_le hlt hb.size, fun j hj => (hc j hj).below hlt hb⟩

/-- a graph's lists lie at la, ea -/
structure GAt (w : World) (la ea : Option Addr) (g : Gr) : Prop where
  lv : IvAt w la g.lives
  ed : EdAt w ea g.edges
  nl : g.lives.length ≤ 9223372036854775807
  ne : g.edges.length ≤ 9223372036854775807
theorem GAt.below {w w' : World} {la ea : Option Addr} {g : Gr} (h : GAt w la ea g) (hb : Below w.heap.size w w') : GAt w' la ea g := ⟨h.lv.below hb, h.ed.below hb, h.nl, h.ne⟩

theorem Try.infoLeg : (Try.prog.info? 75).map (fun i => (i.zero, i.size, i.bytes)) = some (some (.agg #[.int .i64 0, .int .i64 0, .int .i64 0, .int .i64 0]), 4, 32) := by kernel_rfl
theorem Try.infoEdge : (Try.prog.info? 78).map (fun i => (i.zero, i.size, i.bytes)) = some (some (.agg #[.int .i64 0, .int .i64 0, .slice none 0 0]), 3, 40) := by kernel_rfl

end Go.Proofs.Ytanbbkoleekmjag

namespace Go.Proofs.Ytanbbkoleekmjag
open Go.Lib

/-- the pieces of a text between bytes c -/
def sp (c : UInt8) : List UInt8 → List (List UInt8)
  | [] => [[]]
  | x :: l => if x = c then [] :: sp c l else ((x :: (sp c l).headD []) :: (sp c l).tail)
/-- put together again -/
def jn (c : UInt8) : List (List UInt8) → List UInt8
  | [] => []
  | [l] => l
  | l :: m :: r => l ++ c :: jn c (m :: r)

theorem sp_ne (c : UInt8) (l : List UInt8) : sp c l ≠ [] := by
  cases l with
  | nil => simp [sp]
  | cons x l => unfold sp; split <;> simp
theorem sp_cons (c : UInt8) (l : List UInt8) : ∃ h t, sp c l = h :: t := by
  cases h : sp c l with
  | nil => exact absurd h (sp_ne c l)
  | cons a b => exact ⟨a, b, rfl⟩
theorem sp_hit (c : UInt8) (l : List UInt8) : sp c (c :: l) = [] :: sp c l := by rw [sp, if_pos rfl]
theorem sp_miss {c x : UInt8} (h : x ≠ c) {l : List UInt8} {a : List UInt8} {t : List (List UInt8)} (e : sp c l = a :: t) : sp c (x :: l) = (x :: a) :: t := by rw [sp, if_neg h, e]; rfl
theorem sp_none {c : UInt8} : ∀ {l : List UInt8}, c ∉ l → sp c l = [l]
  | [], _ => rfl
  | x :: l, h => by
    have hx : x ≠ c := fun e => h (by simp [e])
    rw [sp_miss hx (sp_none (fun k => h (List.mem_cons_of_mem _ k)))]
theorem sp_ahead {c : UInt8} : ∀ {a : List UInt8} (l : List UInt8), c ∉ a → sp c (a ++ c :: l) = a :: sp c l
  | [], l, _ => sp_hit c l
  | x :: a, l, h => by
    have hx : x ≠ c := fun e => h (by simp [e])
    rw [List.cons_append, sp_miss hx (sp_ahead l (fun k => h (List.mem_cons_of_mem _ k)))]
theorem jn_cons (c : UInt8) (a : List UInt8) {t : List (List UInt8)} (h : t ≠ []) : jn c (a :: t) = a ++ c :: jn c t := by
  cases t with
  | nil => exact absurd rfl h
  | cons b t => rfl
theorem jn_head (c x : UInt8) (a : List UInt8) (t : List (List UInt8)) : jn c ((x :: a) :: t) = x :: jn c (a :: t) := by
  cases t with
  | nil => rfl
  | cons b t => rfl
theorem jn_sp (c : UInt8) : ∀ l : List UInt8, jn c (sp c l) = l
  | [] => rfl
  | x :: l => by
    by_cases h : x = c
    · subst h; rw [sp_hit, jn_cons _ _ (sp_ne _ _), jn_sp x l]; rfl
    · obtain ⟨a, t, e⟩ := sp_cons c l
      rw [sp_miss h e, jn_head, ← e, jn_sp c l]
theorem sp_snoc_hit (c : UInt8) : ∀ l : List UInt8, sp c (l ++ [c]) = sp c l ++ [[]]
  | [] => by rw [List.nil_append, sp_hit]; rfl
  | x :: l => by
    by_cases h : x = c
    · subst h; rw [List.cons_append, sp_hit, sp_hit, sp_snoc_hit x l]; rfl
    · obtain ⟨a, t, e⟩ := sp_cons c l
      have := sp_snoc_hit c l
      rw [e] at this
      rw [List.cons_append, sp_miss h this, sp_miss h e]; rfl
theorem sp_snoc_miss {c x : UInt8} (hx : x ≠ c) : ∀ (l : List UInt8) (i : List (List UInt8)) (a : List UInt8), sp c l = i ++ [a] → sp c (l ++ [x]) = i ++ [a ++ [x]]
  | [], i, a, h => by
    have : sp c [] = [[]] := rfl
    rw [this] at h
    cases i with
    | nil => simp at h; subst h; rw [List.nil_append, sp_miss hx (show sp c [] = [] :: [] from rfl)]; rfl
    | cons b i => cases i <;> simp at h
  | y :: l, i, a, h => by
    by_cases hy : y = c
    · subst hy
      rw [sp_hit] at h
      rw [List.cons_append, sp_hit]
      cases i with
      | nil => simp at h; exact absurd h.2 (sp_ne _ _)
      | cons b i =>
        simp at h
        rw [sp_snoc_miss hx l i a h.2, h.1]; rfl
    · obtain ⟨b, t, e⟩ := sp_cons c l
      rw [sp_miss hy e] at h
      cases i with
      | nil =>
        simp at h
        obtain ⟨rfl, rfl⟩ := h
        rw [List.cons_append, sp_miss hy (sp_snoc_miss hx l [] b (by rw [e]; rfl))]; rfl
      | cons d i =>
        simp at h
        obtain ⟨rfl, rfl⟩ := h
        rw [List.cons_append, sp_miss hy (sp_snoc_miss hx l (b :: i) a (by rw [e]; rfl))]; rfl
theorem sp_length_le (c : UInt8) : ∀ l : List UInt8, (sp c l).length ≤ l.length + 1
  | [] => by simp [sp]
  | x :: l => by
    have := sp_length_le c l
    obtain ⟨a, t, e⟩ := sp_cons c l
    rw [e] at this
    by_cases h : x = c
    · subst h; rw [sp_hit, e]; simpa using this
    · rw [sp_miss h e]; simp at this ⊢; omega
theorem sp_mem_le (c : UInt8) : ∀ (l : List UInt8), ∀ a ∈ sp c l, a.length ≤ l.length
  | [], a, h => by simp [sp] at h; simp [h]
  | x :: l, a, h => by
    have ih := sp_mem_le c l
    obtain ⟨b, t, e⟩ := sp_cons c l
    by_cases hx : x = c
    · subst hx
      rw [sp_hit] at h
      rcases List.mem_cons.1 h with rfl | h
      · simp
      · have := ih a h; simp; omega
    · rw [sp_miss hx e] at h
      rw [e] at ih
      rcases List.mem_cons.1 h with rfl | h
      · have := ih b (by simp); simp; omega
      · have := ih a (List.mem_cons_of_mem _ h); simp; omega

/-- is the byte a digit? -/
def dgB (b : UInt8) : Bool := decide (48 ≤ b.toNat) && decide (b.toNat ≤ 57)
/-- the number that digits tell -/
def nv (n : Nat) (l : List UInt8) : Nat := l.foldl (fun n b => 10 * n + (b.toNat - 48)) n
/-- is the word a number? -/
def nmB (l : List UInt8) : Bool := decide (1 ≤ l.length) && (decide (l.length ≤ 4) && (!(decide (l.head? = some 48) && decide (1 < l.length)) && l.all dgB))
def nm (l : List UInt8) : Option Int := if nmB l = true then some (nv 0 l : Nat) else none

theorem nmB_iff (l : List UInt8) : nmB l = true ↔ 1 ≤ l.length ∧ l.length ≤ 4 ∧ ¬ (l.head? = some 48 ∧ 1 < l.length) ∧ ∀ b ∈ l, dgB b = true := by
  unfold nmB
  rw [Bool.and_eq_true, Bool.and_eq_true, Bool.and_eq_true, List.all_eq_true, decide_eq_true_eq, decide_eq_true_eq, Bool.not_eq_true', ← Bool.not_eq_true, Bool.and_eq_true, decide_eq_true_eq, decide_eq_true_eq]
theorem dgB_iff (b : UInt8) : dgB b = true ↔ 48 ≤ b.toNat ∧ b.toNat ≤ 57 := by unfold dgB; simp
theorem dgB_of (d : Nat) (h : d < 10) : dgB (UInt8.ofNat (48 + d)) = true ∧ (UInt8.ofNat (48 + d)).toNat = 48 + d := by
  have : (UInt8.ofNat (48 + d)).toNat = 48 + d := by simp; omega
  exact ⟨(dgB_iff _).2 (by omega), this⟩
theorem ofNat_dg (b : UInt8) (h : dgB b = true) : UInt8.ofNat (48 + (b.toNat - 48)) = b := by
  have := (dgB_iff b).1 h
  apply UInt8.toNat_inj.1
  simp; omega
theorem nv_snoc (n : Nat) (l : List UInt8) (b : UInt8) : nv n (l ++ [b]) = 10 * nv n l + (b.toNat - 48) := by unfold nv; rw [List.foldl_append]; rfl

theorem snocInd {α : Type} {p : List α → Prop} (h0 : p []) (h1 : ∀ l x, p l → p (l ++ [x])) : ∀ (n : Nat) (l : List α), l.length = n → p l
  | 0, l, h => by rw [List.eq_nil_of_length_eq_zero h]; exact h0
  | n + 1, l, h => by
    rcases List.eq_nil_or_concat l with rfl | ⟨a, x, rfl⟩
    · exact h0
    · rw [List.concat_eq_append] at h ⊢
      exact h1 a x (snocInd h0 h1 n a (by simpa using h))

theorem nv_lt (l : List UInt8) (h : ∀ b ∈ l, dgB b = true) : nv 0 l < 10 ^ l.length := by
  revert h
  refine snocInd (p := fun l => (∀ b ∈ l, dgB b = true) → nv 0 l < 10 ^ l.length) (fun _ => by simp [nv]) (fun l b ih h => ?_) l.length l rfl
  have h1 := ih fun x hx => h x (by simp [hx])
  have h2 := (dgB_iff b).1 (h b (by simp))
  rw [nv_snoc, List.length_append, List.length_singleton, Nat.pow_succ]
  omega
theorem nv_bd (l : List UInt8) (h : ∀ b ∈ l, dgB b = true) (h4 : l.length ≤ 4) : nv 0 l ≤ 9999 := by
  have := nv_lt l h
  have : 10 ^ l.length ≤ 10 ^ 4 := Nat.pow_le_pow_right (by decide) h4
  omega
/-- digits without a nought ahead are the numeral of their number -/
theorem dec_nv (l : List UInt8) (h : ∀ b ∈ l, dgB b = true) (hne : l ≠ []) (h0 : ¬ (l.head? = some 48 ∧ 1 < l.length)) : decDigits (nv 0 l) = l := by
  revert h hne h0
  refine (snocInd (p := fun l => (∀ b ∈ l, dgB b = true) → l ≠ [] → ¬ (l.head? = some 48 ∧ 1 < l.length) → decDigits (nv 0 l) = l ∧ (l.head? ≠ some 48 → 1 ≤ nv 0 l)) (fun _ h => absurd rfl h) (fun l b ih h _ h0 => ?_) l.length l rfl · · · |>.1)
  have hb := h b (by simp)
  have h2 := (dgB_iff b).1 hb
  rw [nv_snoc]
  by_cases hl : l = []
  · subst hl
    have e : 10 * nv 0 [] + (b.toNat - 48) = b.toNat - 48 := by simp [nv]
    rw [e]
    refine ⟨by rw [decDigits_one (by omega), ofNat_dg b hb]; rfl, fun hh => ?_⟩
    have : b ≠ 48 := fun k => hh (by simp [k])
    have : b.toNat ≠ 48 := fun k => this (UInt8.toNat_inj.1 k)
    omega
  · have hlen : 1 ≤ l.length := by cases l with
      | nil => exact absurd rfl hl
      | cons _ _ => simp
    have hhd : (l ++ [b]).head? = l.head? := by cases l with
      | nil => exact absurd rfl hl
      | cons _ _ => rfl
    have hn : l.head? ≠ some 48 := fun k => h0 ⟨by rw [hhd]; exact k, by simp; omega⟩
    obtain ⟨i1, i2⟩ := ih (fun x hx => h x (by simp [hx])) hl (fun k => hn k.1)
    have i2 := i2 hn
    refine ⟨?_, fun _ => by omega⟩
    rw [decDigits, dif_neg (by omega), show (10 * nv 0 l + (b.toNat - 48)) / 10 = nv 0 l by omega, show (10 * nv 0 l + (b.toNat - 48)) % 10 = b.toNat - 48 by omega, i1, ofNat_dg b hb]

theorem dec_all (u : Nat) : ∀ b ∈ decDigits u, dgB b = true := by
  induction u using Nat.strongRecOn with
  | _ u ih =>
    intro b hb
    rw [decDigits] at hb
    by_cases h : u < 10
    · rw [dif_pos h] at hb
      rw [List.mem_singleton.1 hb]; exact (dgB_of u h).1
    · rw [dif_neg h] at hb
      rcases List.mem_append.1 hb with hb | hb
      · exact ih (u / 10) (by omega) b hb
      · rw [List.mem_singleton.1 hb]; exact (dgB_of (u % 10) (by omega)).1
theorem nv_dec (u : Nat) : nv 0 (decDigits u) = u := by
  induction u using Nat.strongRecOn with
  | _ u ih =>
    rw [decDigits]
    by_cases h : u < 10
    · rw [dif_pos h]
      have := (dgB_of u h).2
      simp only [nv, List.foldl_cons, List.foldl_nil, this]; omega
    · rw [dif_neg h, nv_snoc, ih (u / 10) (by omega), (dgB_of (u % 10) (by omega)).2]; omega
theorem dec_head (u : Nat) : 1 ≤ (decDigits u).length ∧ (1 ≤ u → (decDigits u).head? ≠ some 48) := by
  induction u using Nat.strongRecOn with
  | _ u ih =>
    rw [decDigits]
    by_cases h : u < 10
    · rw [dif_pos h]
      refine ⟨by simp, fun h1 k => ?_⟩
      have := (dgB_of u h).2
      simp only [List.head?_cons, Option.some.injEq] at k
      rw [k] at this
      have e : (48 : UInt8).toNat = 48 := rfl
      omega
    · rw [dif_neg h]
      obtain ⟨i1, i2⟩ := ih (u / 10) (by omega)
      refine ⟨by simp, fun _ k => ?_⟩
      have i2 := i2 (by omega)
      cases hd : decDigits (u / 10) with
      | nil => rw [hd] at i1; simp at i1
      | cons x t => rw [hd] at k i2; exact i2 k

theorem itoa_nat {n : Int} (h : 0 ≤ n) : itoa n = decDigits n.toNat := by unfold itoa; rw [if_neg (by omega)]
theorem nm_itoa {n : Int} (h : 0 ≤ n) (h9 : n ≤ 9999) : nm (itoa n) = some n := by
  rw [itoa_nat h]
  unfold nm
  have hl : (decDigits n.toNat).length ≤ 4 := by
    rw [decDigits_length]
    rcases Nat.lt_or_ge n.toNat 10 with k | k
    · rw [nDigits_small k]; omega
    rcases Nat.lt_or_ge n.toNat 100 with k1 | k1
    · rw [nDigits_unique 1 _ (by omega) (by omega)]; omega
    rcases Nat.lt_or_ge n.toNat 1000 with k2 | k2
    · rw [nDigits_unique 2 _ (by omega) (by omega)]; omega
    · rw [nDigits_unique 3 _ (by omega) (by omega)]; omega
  have h1 := dec_head n.toNat
  rw [if_pos, nv_dec]
  · congr 1; omega
  · rw [nmB_iff]
    refine ⟨h1.1, hl, fun ⟨k, k'⟩ => ?_, dec_all _⟩
    rcases Nat.eq_zero_or_pos n.toNat with e | e
    · rw [e, decDigits_one (by omega)] at k'; simp at k'
    · exact h1.2 e k
theorem nm_some {l : List UInt8} {n : Int} (h : nm l = some n) : itoa n = l ∧ 0 ≤ n ∧ n ≤ 9999 := by
  unfold nm at h
  by_cases hb : nmB l = true
  · rw [if_pos hb] at h
    obtain ⟨h1, h2, h3, h4⟩ := (nmB_iff l).1 hb
    simp only [Option.some.injEq] at h
    subst h
    have := nv_bd l h4 h2
    refine ⟨?_, by omega, by omega⟩
    rw [itoa_nonneg, dec_nv l h4 (fun e => by rw [e] at h1; simp at h1) h3]
  · rw [if_neg hb] at h; simp at h
theorem itoa_sign {n : Int} (h : 0 ≤ n) : ∀ b ∈ itoa n, dgB b = true := by rw [itoa_nat h]; exact dec_all _
theorem itoa_not {n : Int} (h : 0 ≤ n) {c : UInt8} (hc : dgB c = false) : c ∉ itoa n := fun k => by have := itoa_sign h c k; rw [hc] at this; simp at this

/-- numbers of words -/
def nms : List (List UInt8) → Option (List Int)
  | [] => some []
  | w :: ws => match nm w with
    | none => none
    | some n => match nms ws with
      | none => none
      | some l => some (n :: l)

def wTime : List UInt8 := [116, 105, 109, 101]
def wVertex : List UInt8 := [118, 101, 114, 116, 101, 120]
def wEdge : List UInt8 := [101, 100, 103, 101]
def wLeg : List UInt8 := [108, 101, 103]

/-- the graph with a leg more at its last edge -/
def putLeg (es : List Ed) (l : Lg) : List Ed := match es.getLast? with
  | none => es
  | some e => es.dropLast ++ [(e.1, e.2.1, e.2.2 ++ [l])]

/-- what a line's kind and numbers make of a graph -/
def put (g : Gr) (k : List UInt8) (ns : List Int) : Option Gr :=
  match ns with
  | [a] => if k = wTime then some { g with hor := a } else none
  | [a, b] => if k = wVertex ∧ g.edges = [] then some { g with lives := g.lives ++ [(a, b)] } else if k = wEdge then some { g with edges := g.edges ++ [(a, b, [])] } else none
  | [a, b, c, d] => if k = wLeg ∧ g.edges ≠ [] then some { g with edges := putLeg g.edges (a, b, c, d) } else none
  | _ => none
/-- is the word time? -/
def isT (k : List UInt8) : Bool := decide (k = wTime)
/-- what a line's words make of a graph -/
def lineW (g : Gr) (first : Bool) (k : List UInt8) (t : List (List UInt8)) : Option Gr :=
  match nms t with
  | none => none
  | some ns => if first = isT k then put g k ns else none
/-- what a line makes of a graph -/
def lineOf (g : Gr) (l : List UInt8) (first : Bool) : Option Gr := lineW g first ((sp 32 l).headD []) (sp 32 l).tail
theorem lineOf_eq {g : Gr} {l : List UInt8} {first : Bool} {k : List UInt8} {t : List (List UInt8)} (e : sp 32 l = k :: t) : lineOf g l first = lineW g first k t := by unfold lineOf; rw [e]; rfl
theorem lineW_none {g : Gr} {first : Bool} {k : List UInt8} {t : List (List UInt8)} (h : nms t = none) : lineW g first k t = none := by unfold lineW; rw [h]
theorem lineW_first {g : Gr} {first : Bool} {k : List UInt8} {t : List (List UInt8)} (h : first ≠ isT k) : lineW g first k t = none := by
  unfold lineW
  cases nms t with
  | none => rfl
  | some ns => simp only [if_neg h]
theorem lineW_put {g : Gr} {first : Bool} {k : List UInt8} {t : List (List UInt8)} {ns : List Int} (h : nms t = some ns) (h1 : first = isT k) : lineW g first k t = put g k ns := by unfold lineW; rw [h]; simp only [if_pos h1]
theorem lineW_some {g g' : Gr} {first : Bool} {k : List UInt8} {t : List (List UInt8)} (h : lineW g first k t = some g') : ∃ ns, nms t = some ns ∧ first = isT k ∧ put g k ns = some g' := by
  cases h1 : nms t with
  | none => rw [lineW_none h1] at h; simp at h
  | some ns =>
    by_cases h2 : first = isT k
    · exact ⟨ns, rfl, h2, by rw [← h, lineW_put h1 h2]⟩
    · rw [lineW_first h2] at h; simp at h
/-- what the lines make of a graph: or the number of the first wrong one -/
def rdP (g : Gr) (at' : Nat) (first : Bool) : List (List UInt8) → Gr ⊕ Nat
  | [] => .inr at'
  | [l] => if first = false ∧ l = [] then .inl g else .inr at'
  | l :: m :: r => match lineOf g l first with
    | none => .inr at'
    | some g' => rdP g' (at' + 1) false (m :: r)
def g0 : Gr := ⟨0, [], []⟩
/-- what Parse answers -/
def parse (s : List UInt8) : Gr × Int × Int :=
  if 8192 < s.length then (g0, 0, 2) else match rdP g0 1 true (sp 10 s) with
    | .inr n => (g0, n, 3)
    | .inl g => if gChk g = 0 then (g, 0, 0) else (g0, 0, gChk g)

/-- a line -/
def line (w : List UInt8) (ns : List Int) : List UInt8 := w ++ ns.flatMap (fun n => 32 :: itoa n) ++ [10]
def lvText (p : Int × Int) : List UInt8 := line wVertex [p.1, p.2]
def lgText (l : Lg) : List UInt8 := line wLeg [l.1, l.2.1, l.2.2.1, l.2.2.2]
def edText (e : Ed) : List UInt8 := line wEdge [e.1, e.2.1] ++ e.2.2.flatMap lgText
/-- what Print answers of a right graph -/
def gText (g : Gr) : List UInt8 := line wTime [g.hor] ++ g.lives.flatMap lvText ++ g.edges.flatMap edText

theorem nms_back : ∀ {ws : List (List UInt8)} {ns : List Int}, nms ws = some ns → ws = ns.map itoa ∧ ∀ n ∈ ns, 0 ≤ n ∧ n ≤ 9999
  | [], ns, h => by simp [nms] at h; subst h; simp
  | w :: ws, ns, h => by
    unfold nms at h
    cases h1 : nm w with
    | none => rw [h1] at h; simp at h
    | some n =>
      rw [h1] at h
      cases h2 : nms ws with
      | none => rw [h2] at h; simp at h
      | some l =>
        rw [h2] at h
        simp only [Option.some.injEq] at h
        subst h
        obtain ⟨e1, e2⟩ := nms_back h2
        obtain ⟨f1, f2, f3⟩ := nm_some h1
        refine ⟨by rw [List.map_cons, f1, ← e1], fun x hx => ?_⟩
        rcases List.mem_cons.1 hx with rfl | hx
        · exact ⟨f2, f3⟩
        · exact e2 x hx
theorem nms_itoa : ∀ {ns : List Int}, (∀ n ∈ ns, 0 ≤ n ∧ n ≤ 9999) → nms (ns.map itoa) = some ns
  | [], _ => rfl
  | n :: ns, h => by
    have h1 := h n (by simp)
    rw [List.map_cons, nms, nm_itoa h1.1 h1.2, nms_itoa fun x hx => h x (by simp [hx])]
theorem jn_map (w : List UInt8) : ∀ ns : List Int, jn 32 (w :: ns.map itoa) = w ++ ns.flatMap (fun n => 32 :: itoa n)
  | [] => by simp [jn]
  | n :: ns => by
    rw [List.map_cons, jn_cons _ _ (by simp), jn_map (itoa n) ns]
    simp
theorem sp_line {w : List UInt8} (hw : (32 : UInt8) ∉ w) : ∀ {ns : List Int}, (∀ n ∈ ns, 0 ≤ n) → sp 32 (w ++ ns.flatMap (fun n => 32 :: itoa n)) = w :: ns.map itoa
  | [], _ => by rw [List.flatMap_nil, List.append_nil, sp_none hw]; rfl
  | n :: ns, h => by
    rw [List.flatMap_cons, List.cons_append, sp_ahead _ hw, sp_line (itoa_not (h n (by simp)) (by decide)) fun x hx => h x (by simp [hx])]
    rfl

theorem putLeg_snoc (es : List Ed) (e : Ed) (l : Lg) : putLeg (es ++ [e]) l = es ++ [(e.1, e.2.1, e.2.2 ++ [l])] := by unfold putLeg; simp
theorem put_text {g g' : Gr} {k : List UInt8} {ns : List Int} (h : put g k ns = some g') (ht : k ≠ wTime) : gText g' = gText g ++ line k ns := by
  unfold put at h
  split at h
  · rw [if_neg ht] at h; simp at h
  · split at h
    · rename_i a b hk
      simp only [Option.some.injEq] at h
      subst h
      obtain ⟨rfl, he⟩ := hk
      simp [gText, he, lvText]
    · split at h
      · rename_i hk
        simp only [Option.some.injEq] at h
        subst h
        subst hk
        simp [gText, edText]
      · simp at h
  · split at h
    · rename_i a b c d hk
      simp only [Option.some.injEq] at h
      subst h
      obtain ⟨rfl, he⟩ := hk
      rcases List.eq_nil_or_concat g.edges with e | ⟨es, e, h0⟩
      · exact absurd e he
      · rw [List.concat_eq_append] at h0
        simp only [gText, h0, putLeg_snoc, List.flatMap_append, List.flatMap_cons, List.flatMap_nil, List.append_nil, edText, lgText, List.append_assoc]
    · simp at h
  · simp at h
theorem lineOf_text {g g' : Gr} {l : List UInt8} (h : lineOf g l false = some g') : gText g' = gText g ++ (l ++ [10]) := by
  obtain ⟨k, t, e⟩ := sp_cons 32 l
  rw [lineOf_eq e] at h
  obtain ⟨ns, h1, h2, h3⟩ := lineW_some h
  have hk : k ≠ wTime := by unfold isT at h2; simpa using h2
  rw [put_text h3 hk]
  have e2 := jn_sp 32 l
  rw [e, (nms_back h1).1, jn_map] at e2
  rw [line, e2]
theorem lineOf_first {g' : Gr} {l : List UInt8} (h : lineOf g0 l true = some g') : gText g' = l ++ [10] := by
  obtain ⟨k, t, e⟩ := sp_cons 32 l
  rw [lineOf_eq e] at h
  obtain ⟨ns, h1, h2, h⟩ := lineW_some h
  have hk : k = wTime := by unfold isT at h2; simpa using h2
  have e2 := jn_sp 32 l
  rw [e, (nms_back h1).1, jn_map] at e2
  subst hk
  unfold put at h
  split at h
  · simp only [if_true, Option.some.injEq] at h
    subst h
    simp [gText, g0, line, ← e2]
  · rw [if_neg (by simp [wTime, wVertex]), if_neg (by decide)] at h; simp at h
  · rw [if_neg (by simp [wTime, wLeg])] at h; simp at h
  · simp at h
theorem rdP_text : ∀ (ps : List (List UInt8)) (g g' : Gr) (n : Nat), rdP g n false ps = .inl g' → gText g' = gText g ++ jn 10 ps
  | [], g, g', n, h => by simp [rdP] at h
  | [l], g, g', n, h => by
    unfold rdP at h
    split at h
    · rename_i hl
      simp only [Sum.inl.injEq] at h
      subst h
      simp [hl.2, jn]
    · simp at h
  | l :: m :: r, g, g', n, h => by
    unfold rdP at h
    cases h1 : lineOf g l false with
    | none => rw [h1] at h; simp at h
    | some g1 =>
      rw [h1] at h
      rw [rdP_text (m :: r) g1 g' _ h, lineOf_text h1, jn_cons 10 l (t := m :: r) (by simp)]
      simp
theorem parse_text {s : List UInt8} {g : Gr} {a : Int} (h : parse s = (g, a, 0)) : gText g = s ∧ gChk g = 0 ∧ a = 0 := by
  unfold parse at h
  split at h
  · simp at h
  · split at h
    · simp at h
    · rename_i g1 hr
      split at h
      · rename_i hc
        simp only [Prod.mk.injEq] at h
        obtain ⟨rfl, h2, _⟩ := h
        refine ⟨?_, hc, h2.symm⟩
        have e := jn_sp 10 s
        obtain ⟨l, t, e2⟩ := sp_cons 10 s
        rw [e2] at hr e
        cases t with
        | nil => simp [rdP] at hr
        | cons m r =>
          unfold rdP at hr
          cases h1 : lineOf g0 l true with
          | none => rw [h1] at hr; simp at hr
          | some g2 =>
            rw [h1] at hr
            rw [rdP_text (m :: r) g2 g1 _ hr, lineOf_first h1, ← e, jn_cons 10 l (t := m :: r) (by simp)]
            simp
      · rename_i hc
        simp only [Prod.mk.injEq] at h
        exact absurd h.2.2 hc

/-- a printed line ahead of a text is its first piece -/
theorem sp_nl {w : List UInt8} (hw : (10 : UInt8) ∉ w) {ns : List Int} (h : ∀ n ∈ ns, 0 ≤ n) (s : List UInt8) : sp 10 (line w ns ++ s) = (w ++ ns.flatMap (fun n => 32 :: itoa n)) :: sp 10 s := by
  have hc : (10 : UInt8) ∉ w ++ ns.flatMap (fun n => 32 :: itoa n) := by
    intro k
    rcases List.mem_append.1 k with k | k
    · exact hw k
    · obtain ⟨n, hn, k⟩ := List.mem_flatMap.1 k
      rcases List.mem_cons.1 k with k | k
      · simp at k
      · exact itoa_not (h n hn) (by decide) k
  rw [line, List.append_assoc, List.singleton_append, sp_ahead _ hc]
theorem rdP_line {w : List UInt8} (hw : (10 : UInt8) ∉ w) (hw2 : (32 : UInt8) ∉ w) {ns : List Int} (h : ∀ n ∈ ns, 0 ≤ n ∧ n ≤ 9999) (s : List UInt8) (g g' : Gr) (n : Nat) (first : Bool) (h1 : first = isT w) (hp : put g w ns = some g') :
    rdP g n first (sp 10 (line w ns ++ s)) = rdP g' (n + 1) false (sp 10 s) := by
  have e := sp_nl hw (fun n hn => (h n hn).1) s
  obtain ⟨a, t, e2⟩ := sp_cons 10 s
  rw [e, e2, rdP, lineOf_eq (sp_line hw2 fun n hn => (h n hn).1), lineW_put (nms_itoa h) h1, hp]
theorem rdP_legs : ∀ (ls : List Lg) (h : Int) (lv : List (Int × Int)) (es : List Ed) (a b : Int) (l0 : List Lg) (n : Nat) (s : List UInt8), (∀ l ∈ ls, ∀ n ∈ [l.1, l.2.1, l.2.2.1, l.2.2.2], 0 ≤ n ∧ n ≤ 9999) →
    ∃ n', rdP ⟨h, lv, es ++ [(a, b, l0)]⟩ n false (sp 10 (ls.flatMap lgText ++ s)) = rdP ⟨h, lv, es ++ [(a, b, l0 ++ ls)]⟩ n' false (sp 10 s)
  | [], h, lv, es, a, b, l0, n, s, _ => ⟨n, by simp⟩
  | l :: ls, h, lv, es, a, b, l0, n, s, hb => by
    obtain ⟨n', e⟩ := rdP_legs ls h lv es a b (l0 ++ [l]) (n + 1) s fun x hx => hb x (by simp [hx])
    refine ⟨n', ?_⟩
    rw [List.flatMap_cons, List.append_assoc, lgText, rdP_line (by decide) (by decide) (hb l (by simp)) _ _ ⟨h, lv, es ++ [(a, b, l0 ++ [l])]⟩ n false (by decide) ?_, e]
    · simp
    · rw [put, if_pos ⟨rfl, by simp⟩, putLeg_snoc]
theorem rdP_edges : ∀ (es' : List Ed) (h : Int) (lv : List (Int × Int)) (es : List Ed) (n : Nat), (∀ e ∈ es', (∀ n ∈ [e.1, e.2.1], 0 ≤ n ∧ n ≤ 9999) ∧ ∀ l ∈ e.2.2, ∀ n ∈ [l.1, l.2.1, l.2.2.1, l.2.2.2], 0 ≤ n ∧ n ≤ 9999) →
    ∃ n', rdP ⟨h, lv, es⟩ n false (sp 10 (es'.flatMap edText)) = rdP ⟨h, lv, es ++ es'⟩ n' false (sp 10 [])
  | [], h, lv, es, n, _ => ⟨n, by simp⟩
  | e :: es', h, lv, es, n, hb => by
    obtain ⟨h1, h2⟩ := hb e (by simp)
    obtain ⟨n1, e1⟩ := rdP_legs e.2.2 h lv es e.1 e.2.1 [] (n + 1) (es'.flatMap edText) h2
    obtain ⟨n2, e2⟩ := rdP_edges es' h lv (es ++ [e]) n1 fun x hx => hb x (by simp [hx])
    refine ⟨n2, ?_⟩
    rw [List.flatMap_cons, edText, List.append_assoc, rdP_line (by decide) (by decide) h1 _ _ ⟨h, lv, es ++ [(e.1, e.2.1, [])]⟩ n false (by decide) ?_, e1, List.nil_append, e2]
    · simp
    · rw [put, if_neg (fun k => by simp [wEdge, wVertex] at k), if_pos rfl]
theorem rdP_lives : ∀ (ls : List (Int × Int)) (h : Int) (lv : List (Int × Int)) (n : Nat) (s : List UInt8), (∀ p ∈ ls, ∀ n ∈ [p.1, p.2], 0 ≤ n ∧ n ≤ 9999) →
    ∃ n', rdP ⟨h, lv, []⟩ n false (sp 10 (ls.flatMap lvText ++ s)) = rdP ⟨h, lv ++ ls, []⟩ n' false (sp 10 s)
  | [], h, lv, n, s, _ => ⟨n, by simp⟩
  | l :: ls, h, lv, n, s, hb => by
    obtain ⟨n', e⟩ := rdP_lives ls h (lv ++ [l]) (n + 1) s fun x hx => hb x (by simp [hx])
    refine ⟨n', ?_⟩
    rw [List.flatMap_cons, List.append_assoc, lvText, rdP_line (by decide) (by decide) (hb l (by simp)) _ _ ⟨h, lv ++ [l], []⟩ n false (by decide) ?_, e]
    · simp
    · rw [put, if_pos ⟨rfl, rfl⟩]

theorem itoa_len {n : Int} (h : 0 ≤ n) (k : Nat) (h9 : n < (10 ^ (k + 1) : Nat)) : (itoa n).length ≤ k + 1 := by
  rw [itoa_nat h, decDigits_length]
  have : ∀ (k u : Nat), u < 10 ^ (k + 1) → nDigits u ≤ k + 1 := by
    intro k
    induction k with
    | zero => intro u hu; rw [nDigits_small (by simpa using hu)]; omega
    | succ k ih =>
      intro u hu
      by_cases h : u < 10
      · rw [nDigits_small h]; omega
      · rw [nDigits_big h]
        have := ih (u / 10) (by rw [Nat.pow_succ] at hu; omega)
        omega
  exact this k _ (by omega)
theorem flat_len {α : Type} (f : α → List UInt8) (k : Nat) : ∀ (l : List α), (∀ x ∈ l, (f x).length ≤ k) → (l.flatMap f).length ≤ k * l.length
  | [], _ => by simp
  | x :: l, h => by
    have h1 := h x (by simp)
    have h2 := flat_len f k l fun y hy => h y (by simp [hy])
    rw [List.flatMap_cons, List.length_append, List.length_cons, Nat.mul_succ]
    omega
theorem right_len {g : Gr} (h : Right g) : (gText g).length ≤ 8000 := by
  have a1 := itoa_len (n := g.hor) (by have := h.hor; omega) 2 (by have := h.hor; omega)
  have hh := h.hor
  have a2 : (g.lives.flatMap lvText).length ≤ 20 * g.lives.length := by
    refine flat_len _ _ _ fun p hp => ?_
    have := h.life p hp
    have b1 := itoa_len (n := p.1) (by omega) 2 (by omega)
    have b2 := itoa_len (n := p.2) (by omega) 2 (by omega)
    simp [lvText, line, wVertex]; omega
  have a3 : (g.edges.flatMap edText).length ≤ 200 * g.edges.length := by
    refine flat_len _ _ _ fun e he => ?_
    have he' := h.ends e he
    have hlv := h.lvs
    have b1 := itoa_len (n := e.1) (by omega) 2 (by omega)
    have b2 := itoa_len (n := e.2.1) (by omega) 2 (by omega)
    have b3 : (e.2.2.flatMap lgText).length ≤ 25 * e.2.2.length := by
      refine flat_len _ _ _ fun l hl => ?_
      have hf := (fitB_iff l g.hor).1 (h.legs e he l hl)
      have c1 := itoa_len (n := l.1) (by omega) 2 (by omega)
      have c2 := itoa_len (n := l.2.1) (by omega) 2 (by omega)
      have c3 := itoa_len (n := l.2.2.1) (by omega) 2 (by omega)
      have c4 := itoa_len (n := l.2.2.2) (by omega) 3 (by omega)
      simp [lgText, line, wLeg]; omega
    simp [edText, line, wEdge]; simp at b3; omega
  have := h.lvs
  have := h.eds
  simp [gText, line, wTime] at *
  omega
/-- what is printed is read as it was -/
theorem parse_print {g : Gr} (h : gChk g = 0) : parse (gText g) = (g, 0, 0) := by
  have R := gChk_right h
  have hh := R.hor
  have hlv := R.lvs
  obtain ⟨n1, e1⟩ := rdP_lives g.lives g.hor [] 2 (g.edges.flatMap edText) fun p hp n hn => by
    have := R.life p hp
    simp at hn; rcases hn with rfl | rfl <;> omega
  obtain ⟨n2, e2⟩ := rdP_edges g.edges g.hor g.lives [] n1 fun e he => by
    have he' := R.ends e he
    refine ⟨fun n hn => by simp at hn; rcases hn with rfl | rfl <;> omega, fun l hl n hn => ?_⟩
    have hf := (fitB_iff l g.hor).1 (R.legs e he l hl)
    simp at hn; rcases hn with rfl | rfl | rfl | rfl <;> omega
  have e3 : rdP g0 1 true (sp 10 (gText g)) = .inl g := by
    rw [gText, List.append_assoc, rdP_line (by decide) (by decide) (fun n hn => by simp at hn; omega) _ _ ⟨g.hor, [], []⟩ 1 true (by decide) (by rw [put, if_pos rfl]; rfl), e1, List.nil_append, e2, List.nil_append]
    rw [sp, rdP, if_pos ⟨rfl, rfl⟩]
  have := right_len R
  rw [parse, if_neg (by omega), e3]
  simp only [if_pos h]

end Go.Proofs.Ytanbbkoleekmjag

namespace Go.Proofs.Ytanbbkoleekmjag
open Go.RowKit

/-- the cells of legs, of edges -/
def enc4 (m : List Lg) : List Value := m.flatMap fun l => [.int .i64 l.1, .int .i64 l.2.1, .int .i64 l.2.2.1, .int .i64 l.2.2.2]
def encE (L : List (Ed × Value)) : List Value := L.flatMap fun p => [.int .i64 p.1.1, .int .i64 p.1.2.1, p.2]
theorem enc4_append (a b : List Lg) : enc4 (a ++ b) = enc4 a ++ enc4 b := by unfold enc4; rw [List.flatMap_append]
theorem encE_append (a b : List (Ed × Value)) : encE (a ++ b) = encE a ++ encE b := by unfold encE; rw [List.flatMap_append]
theorem enc4_cons (l : Lg) (m : List Lg) : enc4 (l :: m) = .int .i64 l.1 :: .int .i64 l.2.1 :: .int .i64 l.2.2.1 :: .int .i64 l.2.2.2 :: enc4 m := by unfold enc4; rw [List.flatMap_cons]; rfl
theorem encE_cons (p : Ed × Value) (m : List (Ed × Value)) : encE (p :: m) = .int .i64 p.1.1 :: .int .i64 p.1.2.1 :: p.2 :: encE m := by unfold encE; rw [List.flatMap_cons]; rfl
theorem enc4_length : ∀ m : List Lg, (enc4 m).length = m.length * 4
  | [] => rfl
  | l :: m => by rw [enc4_cons]; have := enc4_length m; simp [this]; omega
theorem encE_length : ∀ m : List (Ed × Value), (encE m).length = m.length * 3
  | [] => rfl
  | l :: m => by rw [encE_cons]; have := encE_length m; simp [this]; omega
theorem enc4_get : ∀ (m : List Lg) (j : Nat) (h : j < m.length), (enc4 m)[j * 4]? = some (.int .i64 m[j].1) ∧ (enc4 m)[j * 4 + 1]? = some (.int .i64 m[j].2.1) ∧ (enc4 m)[j * 4 + 2]? = some (.int .i64 m[j].2.2.1) ∧ (enc4 m)[j * 4 + 3]? = some (.int .i64 m[j].2.2.2)
  | [], j, h => by simp at h
  | l :: m, 0, _ => by rw [enc4_cons]; exact ⟨rfl, rfl, rfl, rfl⟩
  | l :: m, j + 1, h => by
    have := enc4_get m j (by simp at h; omega)
    rw [enc4_cons, show (j + 1) * 4 = j * 4 + 4 by omega]
    simpa using this
theorem encE_get : ∀ (m : List (Ed × Value)) (j : Nat) (h : j < m.length), (encE m)[j * 3]? = some (.int .i64 m[j].1.1) ∧ (encE m)[j * 3 + 1]? = some (.int .i64 m[j].1.2.1) ∧ (encE m)[j * 3 + 2]? = some m[j].2
  | [], j, h => by simp at h
  | l :: m, 0, _ => by rw [encE_cons]; exact ⟨rfl, rfl, rfl⟩
  | l :: m, j + 1, h => by
    have := encE_get m j (by simp at h; omega)
    rw [encE_cons, show (j + 1) * 3 = j * 3 + 3 by omega]
    simpa using this
theorem encE_set (M : List (Ed × Value)) (A B : Int) (l l' : List Lg) (v v' : Value) : (encE (M ++ [((A, B, l), v)])).set (M.length * 3 + 2) v' = encE (M ++ [((A, B, l'), v')]) := by
  rw [encE_append, encE_append, List.set_append_right _ _ (by rw [encE_length]; omega), encE_length, show M.length * 3 + 2 - M.length * 3 = 2 by omega]
  rfl

theorem encs_app2 (a b : List (Int × Int)) : encs (a ++ b) = encs a ++ encs b := by unfold encs flat; rw [List.flatMap_append, List.map_append]

theorem row_ne {w : World} {base e size : Nat} {v : Value} {n : Nat} {xs : List Value} {b : Nat} {cs : Array Value} {T : TypeId} {fr : Nat × Nat} (h : w.ownsRow base e size v n xs) (hb : w.heap[b]? = some (.cells cs T fr)) (hT : T ≠ e) : v.ownBlock ≠ some b := by
  rcases h.2 with ⟨rfl, _⟩ | ⟨g, cap, cur, rfl, _, hg, _⟩
  · simp [Value.ownBlock]
  · intro h
    simp only [Value.ownBlock, Option.some.injEq] at h
    subst h
    rw [hg] at hb
    simp only [Option.some.injEq, Obj.cells.injEq] at hb
    exact hT hb.2.1.symm
theorem row_set {w : World} {base e size : Nat} {v : Value} {n : Nat} {xs : List Value} {b j : Nat} {u : Value} (h : w.ownsRow base e size v n xs) (hne : v.ownBlock ≠ some b) : (w.setCell ⟨b, j, none⟩ u).ownsRow base e size v n xs :=
  h.kept (row := some b) ⟨rfl, rfl, rfl, by simp [World.setCell], fun k _ hk => Below.heap_setCell _ _ _ _ (fun e => hk (by simp [e]))⟩ (Or.inr hne)
theorem row_block {w : World} {base e size : Nat} {v : Value} {n : Nat} {xs : List Value} {b : Nat} (h : w.ownsRow base e size v n xs) (hb : v.ownBlock = some b) : ∃ cur, w.heap[b]? = some (.cells cur e (0, 0)) := by
  rcases h.2 with ⟨rfl, _⟩ | ⟨g, cap, cur, rfl, _, hg, _⟩
  · simp [Value.ownBlock] at hb
  · simp only [Value.ownBlock, Option.some.injEq] at hb
    subst hb
    exact ⟨cur, hg⟩
theorem row_grown {w w' : World} {base e e' size size' : Nat} {v v' : Value} {n n' : Nat} {xs xs' : List Value} (h : w.ownsRow base e size v n xs) (h' : w.ownsRow base e' size' v' n' xs') (hg : w.grownBy w' v'.ownBlock) (hne : e ≠ e') : w'.ownsRow base e size v n xs := by
  refine h.kept hg ?_
  cases hv : v.ownBlock with
  | none => simp
  | some b =>
    obtain ⟨cur, hb⟩ := row_block h hv
    exact .inr fun k => row_ne h' hb hne k.symm
theorem heap_ltg {w : World} {b : Nat} {o : Obj} (h : w.heap[b]? = some o) : b < w.heap.size := by
  rcases Nat.lt_or_ge b w.heap.size with k | k
  · exact k
  · rw [Array.getElem?_eq_none k] at h; simp at h

/-- a graph that is being read: its box b and its lists, from B on -/
structure GOwn (B b : Nat) (w : World) (hor : Int) (vL vE : Value) (lives : List (Int × Int)) (L : List (Ed × Value)) : Prop where
  box : w.heap[b]? = some (.cells #[.int .i64 hor, vL, vE] 25 (0, 0))
  low : B ≤ b
  lv : w.ownsRow B 55 2 vL lives.length (encs lives)
  ed : w.ownsRow B 78 3 vE L.length (encE L)
  lg : ∀ p ∈ L, w.ownsRow B 75 4 p.2 p.1.2.2.length (enc4 p.1.2.2)
  ap : ∀ M p, L = M ++ [p] → ∀ q ∈ M, q.2.ownBlock = none ∨ q.2.ownBlock ≠ p.2.ownBlock

theorem GOwn.below {B b : Nat} {w w' : World} {hor : Int} {vL vE : Value} {lives : List (Int × Int)} {L : List (Ed × Value)} (h : GOwn B b w hor vL vE lives L) (hb : Below w.heap.size w w') : GOwn B b w' hor vL vE lives L :=
  ⟨by rw [hb.block _ (heap_ltg h.box)]; exact h.box, h.low, ownsRow_below h.lv hb, ownsRow_below h.ed hb, fun p hp => ownsRow_below (h.lg p hp) hb, h.ap⟩
theorem GOwn.first (B b : Nat) (w : World) (hb : w.heap[b]? = some (.cells #[.int .i64 0, .slice none 0 0, .slice none 0 0] 25 (0, 0))) (hB : B ≤ b) : GOwn B b w 0 (.slice none 0 0) (.slice none 0 0) [] [] :=
  ⟨hb, hB, World.ownsRow_nil _ _ _ _, World.ownsRow_nil _ _ _ _, fun p hp => by simp at hp, fun M p h => by simp at h⟩
theorem box_set {w : World} {b : Nat} {cs : Array Value} {T : TypeId} {fr : Nat × Nat} (h : w.heap[b]? = some (.cells cs T fr)) (j : Nat) (u : Value) : (w.setCell ⟨b, j, none⟩ u).heap[b]? = some (.cells (cs.setIfInBounds j u) T fr) := by
  simp [World.setCell, Array.getElem?_modify, h]

theorem GOwn.setHor {B b : Nat} {w : World} {hor : Int} {vL vE : Value} {lives : List (Int × Int)} {L : List (Ed × Value)} (h : GOwn B b w hor vL vE lives L) (x : Int) : GOwn B b (w.setCell ⟨b, 0, none⟩ (.int .i64 x)) x vL vE lives L :=
  ⟨by rw [box_set h.box]; rfl, h.low, row_set h.lv (row_ne h.lv h.box (by decide)), row_set h.ed (row_ne h.ed h.box (by decide)), fun p hp => row_set (h.lg p hp) (row_ne (h.lg p hp) h.box (by decide)), h.ap⟩
theorem GOwn.life {B b : Nat} {w wa w1 : World} {hor : Int} {vL vE v' : Value} {lives : List (Int × Int)} {L : List (Ed × Value)} {x y : Int} (h : GOwn B b w hor vL vE lives L) (hb : Below w.heap.size w wa) (hg : wa.grownBy w1 vL.ownBlock) (ho : w1.ownsRow B 55 2 v' (lives.length + 1) (encs lives ++ [.int .i64 x, .int .i64 y])) :
    w1.heap[b]? = some (.cells #[.int .i64 hor, vL, vE] 25 (0, 0)) ∧ GOwn B b (w1.setCell ⟨b, 1, none⟩ v') hor v' vE (lives ++ [(x, y)]) L := by
  have ha := h.below hb
  have hbox : w1.heap[b]? = some (.cells #[.int .i64 hor, vL, vE] 25 (0, 0)) := by rw [hg.block b (heap_ltg ha.box) (fun k => row_ne ha.lv ha.box (by decide) k.symm)]; exact ha.box
  have hed := row_grown ha.ed ha.lv hg (by decide)
  have hlg := fun p hp => row_grown (ha.lg p hp) ha.lv hg (by decide)
  refine ⟨hbox, by rw [box_set hbox]; rfl, h.low, ?_, row_set hed (row_ne hed hbox (by decide)), fun p hp => row_set (hlg p hp) (row_ne (hlg p hp) hbox (by decide)), h.ap⟩
  have := row_set (b := b) (j := 1) (u := v') ho (row_ne ho hbox (by decide))
  rw [List.length_append, encs_app2]
  exact this
theorem GOwn.edge {B b : Nat} {w wa w1 : World} {hor : Int} {vL vE v' : Value} {lives : List (Int × Int)} {L : List (Ed × Value)} {x y : Int} (h : GOwn B b w hor vL vE lives L) (hb : Below w.heap.size w wa) (hg : wa.grownBy w1 vE.ownBlock) (ho : w1.ownsRow B 78 3 v' (L.length + 1) (encE L ++ [.int .i64 x, .int .i64 y, .slice none 0 0])) :
    w1.heap[b]? = some (.cells #[.int .i64 hor, vL, vE] 25 (0, 0)) ∧ GOwn B b (w1.setCell ⟨b, 2, none⟩ v') hor vL v' lives (L ++ [((x, y, []), .slice none 0 0)]) := by
  have ha := h.below hb
  have hbox : w1.heap[b]? = some (.cells #[.int .i64 hor, vL, vE] 25 (0, 0)) := by rw [hg.block b (heap_ltg ha.box) (fun k => row_ne ha.ed ha.box (by decide) k.symm)]; exact ha.box
  have hlv := row_grown ha.lv ha.ed hg (by decide)
  have hlg := fun p hp => row_grown (ha.lg p hp) ha.ed hg (by decide)
  refine ⟨hbox, by rw [box_set hbox]; rfl, h.low, row_set hlv (row_ne hlv hbox (by decide)), ?_, fun p hp => ?_, fun M p e q hq => ?_⟩
  · have := row_set (b := b) (j := 2) (u := v') ho (row_ne ho hbox (by decide))
    rw [List.length_append, encE_append]
    exact this
  · rcases List.mem_append.1 hp with k | k
    · exact row_set (hlg p k) (row_ne (hlg p k) hbox (by decide))
    · rw [List.mem_singleton.1 k]
      exact World.ownsRow_nil _ _ _ _
  · have e2 := List.append_inj_right' e rfl
    simp only [List.cons.injEq, and_true] at e2
    subst e2
    cases q.2.ownBlock <;> simp [Value.ownBlock]
theorem GOwn.leg {B b : Nat} {w wa w1 : World} {hor : Int} {vL v : Value} {ge cap : Nat} {lives : List (Int × Int)} {M : List (Ed × Value)} {A C : Int} {legs : List Lg} {l : Lg} {g' n' c' H : Nat} (h : GOwn B b w hor vL (.slice (some ⟨ge, 0, none⟩) (M.length + 1) cap) lives (M ++ [((A, C, legs), v)])) (hb : Below w.heap.size w wa) (hg : wa.grownBy w1 v.ownBlock)
    (ho : w1.ownsRow B 75 4 (.slice (some ⟨g', 0, none⟩) n' c') (legs.length + 1) (enc4 legs ++ [.int .i64 l.1, .int .i64 l.2.1, .int .i64 l.2.2.1, .int .i64 l.2.2.2])) (hat : v.ownBlock = some g' ∨ g' = H) (hH : w.heap.size ≤ H) :
    w1.heap[b]? = some (.cells #[.int .i64 hor, vL, .slice (some ⟨ge, 0, none⟩) (M.length + 1) cap] 25 (0, 0)) ∧ w1.cell? ⟨ge, M.length * 3 + 2, none⟩ = some v ∧ w1.frozen? ⟨ge, M.length * 3 + 2, none⟩ = false ∧
    GOwn B b (w1.setCell ⟨ge, M.length * 3 + 2, none⟩ (.slice (some ⟨g', 0, none⟩) n' c')) hor vL (.slice (some ⟨ge, 0, none⟩) (M.length + 1) cap) lives (M ++ [((A, C, legs ++ [l]), .slice (some ⟨g', 0, none⟩) n' c')]) := by
  have ha := h.below hb
  have hlast := ha.lg ((A, C, legs), v) (by simp)
  have hbox : w1.heap[b]? = some (.cells #[.int .i64 hor, vL, .slice (some ⟨ge, 0, none⟩) (M.length + 1) cap] 25 (0, 0)) := by rw [hg.block b (heap_ltg ha.box) (fun k => row_ne hlast ha.box (by decide) k.symm)]; exact ha.box
  have hlv := row_grown ha.lv hlast hg (by decide)
  have hed := row_grown ha.ed hlast hg (by decide)
  have hlen : (M ++ [((A, C, legs), v)]).length = M.length + 1 := by simp
  rw [hlen] at hed
  obtain ⟨cur, hge⟩ := row_block hed (b := ge) rfl
  have hlg : ∀ q ∈ M, w1.ownsRow B 75 4 q.2 q.1.2.2.length (enc4 q.1.2.2) := fun q hq => (ha.lg q (by simp [hq])).kept hg (h.ap M _ rfl q hq)
  have hst := (hed.stored (M.length * 3 + 2) (.slice (some ⟨g', 0, none⟩) n' c')).1
  have hgb : ge ≠ b := fun e => by subst e; rw [hbox] at hge; simp at hge
  refine ⟨hbox, ?_, hed.frozenAt _, ?_, h.low, row_set hlv (row_ne hlv hge (by decide)), ?_, fun p hp => ?_, fun M' p e q hq => ?_⟩
  · rw [hed.cellAt _ (by omega)]
    have := (encE_get (M ++ [((A, C, legs), v)]) M.length (by simp)).2.2
    simpa using this
  · rw [Below.heap_setCell _ _ _ _ (Ne.symm hgb)]; exact hbox
  · rw [encE_set M A C legs (legs ++ [l])] at hst
    simpa using hst
  · rcases List.mem_append.1 hp with k | k
    · exact row_set (hlg p k) (row_ne (hlg p k) hge (by decide))
    · rw [List.mem_singleton.1 k]
      have := row_set (b := ge) (j := M.length * 3 + 2) (u := .slice (some ⟨g', 0, none⟩) n' c') ho (row_ne ho hge (by decide))
      rw [List.length_append, enc4_append]
      exact this
  · have e2 := List.append_inj_right' e rfl
    have e1 := List.append_inj_left' e rfl
    simp only [List.cons.injEq, and_true] at e2
    subst e2 e1
    cases hq' : q.2.ownBlock with
    | none => simp
    | some k =>
      right
      intro hk
      simp only [Value.ownBlock] at hk
      rcases hat with hat | hat
      · have := h.ap M _ rfl q hq
        rw [hq'] at this
        rcases this with k' | k'
        · simp at k'
        · exact k' (by rw [hk, hat])
      · have := ((h.lg q (by simp [hq])).lt k hq').2
        simp at hk
        omega

/-- a graph that is being read -/
def GO (B b : Nat) (w : World) (g : Gr) : Prop := ∃ vL vE L, GOwn B b w g.hor vL vE g.lives L ∧ g.edges = L.map (·.1)
theorem GO.below {B b : Nat} {w w' : World} {g : Gr} (h : GO B b w g) (hb : Below w.heap.size w w') : GO B b w' g := by
  obtain ⟨vL, vE, L, h, e⟩ := h
  exact ⟨vL, vE, L, h.below hb, e⟩
theorem lgAt_of_owns {w : World} {base e : Nat} {v : Value} {n : Nat} {m : List Lg} (h : w.ownsRow base e 4 v n (enc4 m)) : ∃ ao cap, v = .slice ao m.length cap ∧ LgAt w ao m ∧ m.length ≤ cap ∧ cap ≤ 9223372036854775807 := by
  obtain ⟨h1, h2⟩ := h
  simp only [enc4_length] at h1
  have hn : n = m.length := by omega
  subst hn
  rcases h2 with ⟨rfl, h0⟩ | ⟨g, cap, cur, rfl, hb, hh, h3, h4, h5, h6⟩
  · exact ⟨none, 0, by rw [h0], .inl (List.eq_nil_of_length_eq_zero h0), by omega, by omega⟩
  · have hown : w.ownsRow base e 4 (.slice (some ⟨g, 0, none⟩) m.length cap) m.length (enc4 m) := ⟨by simp [enc4_length], .inr ⟨g, cap, cur, rfl, hb, hh, h3, h4, h5, h6⟩⟩
    refine ⟨_, cap, rfl, .inr ⟨g, 0, rfl, (Array.getElem?_eq_some_iff.1 hh).1, fun j hj => ?_⟩, h3, by unfold maxLen at h4; omega⟩
    obtain ⟨f0, f1, f2, f3⟩ := enc4_get m j hj
    rw [Nat.zero_add, hown.cellAt (j * 4) (by omega), hown.cellAt (j * 4 + 1) (by omega), hown.cellAt (j * 4 + 2) (by omega), hown.cellAt (j * 4 + 3) (by omega), List.getD_eq_getElem?_getD, List.getElem?_eq_getElem hj]
    exact ⟨f0, f1, f2, f3⟩
theorem row_form {w : World} {base e size : Nat} {v : Value} {n : Nat} {xs : List Value} (h : w.ownsRow base e size v n xs) : ∃ ao cap, v = .slice ao n cap ∧ n ≤ cap ∧ cap ≤ 9223372036854775807 := by
  rcases h.2 with ⟨rfl, h0⟩ | ⟨g, cap, cur, rfl, hb, hh, h3, h4, _⟩
  · exact ⟨none, 0, by rw [h0], by omega, by omega⟩
  · exact ⟨_, cap, rfl, h3, by unfold maxLen at h4; omega⟩
theorem GOwn.gat {B b : Nat} {w : World} {hor : Int} {vL vE : Value} {lives : List (Int × Int)} {L : List (Ed × Value)} (h : GOwn B b w hor vL vE lives L) :
    ∃ la lc ea ec, vL = .slice la lives.length lc ∧ vE = .slice ea L.length ec ∧ GAt w la ea ⟨hor, lives, L.map (·.1)⟩ ∧ lives.length ≤ lc ∧ lc ≤ 9223372036854775807 := by
  obtain ⟨la, lc, rfl, hlv⟩ := ivAt_of_owns h.lv
  obtain ⟨_, _, e1, n1, n2⟩ := row_form h.lv
  simp only [Value.slice.injEq] at e1
  obtain ⟨rfl, _, rfl⟩ := e1
  obtain ⟨ea, ec, rfl, n3, n4⟩ := row_form h.ed
  refine ⟨la, lc, ea, ec, rfl, rfl, ⟨hlv, ?_, by simp only; omega, by simp only [List.length_map]; omega⟩, n1, n2⟩
  rcases h.ed.2 with ⟨_, h0⟩ | ⟨g, cap, cur, e2, hb, hh, _⟩
  · exact .inl (by simp only; rw [List.eq_nil_of_length_eq_zero h0]; rfl)
  · simp only [Value.slice.injEq] at e2
    obtain ⟨rfl, _, rfl⟩ := e2
    refine .inr ⟨g, 0, rfl, (Array.getElem?_eq_some_iff.1 hh).1, fun j hj => ?_⟩
    have hj' : j < L.length := by simpa using hj
    obtain ⟨f0, f1, f2⟩ := encE_get L j hj'
    obtain ⟨a, c, hv, hl, m1, m2⟩ := lgAt_of_owns (h.lg L[j] (List.getElem_mem hj'))
    have ej : (L.map (·.1))[j] = L[j].1 := by simp
    unfold EdOne
    simp only [ej]
    rw [Nat.zero_add, h.ed.cellAt (j * 3) (by omega), h.ed.cellAt (j * 3 + 1) (by omega), h.ed.cellAt (j * 3 + 2) (by omega)]
    exact ⟨f0, f1, a, c, by rw [f2, hv], hl, m1, m2⟩

end Go.Proofs.Ytanbbkoleekmjag

namespace Go.Proofs.Ytanbbkoleekmjag

def revIv (h : Int) (p : Int × Int) : Int × Int := (h - p.2, h - p.1)
/-- the first time at which one leaves, and the time behind the last one -/
def rvA (h : Int) (l : Lg) : Int := max 0 (h - l.2.2.1 - l.2.1)
def rvB (h : Int) (l : Lg) : Int := h - l.2.2.1 - l.1
def revLg (h : Int) (l : Lg) : Lg := (rvA h l, rvB h l, l.2.2.1, l.2.2.2)
/-- the edges that an edge's first k legs give -/
def revE (h : Int) (e : Ed) (k : Nat) : List Ed := (e.2.2.take k).flatMap fun l => if 0 < rvB h l then [(e.2.1, e.1, [revLg h l])] else []
/-- .. and the first i edges -/
def revEs (g : Gr) (i : Nat) : List Ed := (g.edges.take i).flatMap fun e => revE g.hor e e.2.2.length
def revG (g : Gr) : Gr := ⟨g.hor, g.lives.map (revIv g.hor), revEs g g.edges.length⟩
/-- what Reverse of the reference answers -/
def revA (g : Gr) : Gr × Int := if 30 < (revG g).edges.length then (⟨0, [], []⟩, 2) else (revG g, 0)

theorem revE_succ {h : Int} {e : Ed} {k : Nat} (hk : k < e.2.2.length) : revE h e (k + 1) = revE h e k ++ if 0 < rvB h e.2.2[k] then [(e.2.1, e.1, [revLg h e.2.2[k]])] else [] := by
  unfold revE; rw [List.take_succ_eq_append_getElem hk, List.flatMap_append]; simp
theorem revEs_succ {g : Gr} {i : Nat} (hi : i < g.edges.length) : revEs g (i + 1) = revEs g i ++ revE g.hor g.edges[i] g.edges[i].2.2.length := by
  unfold revEs; rw [List.take_succ_eq_append_getElem hi, List.flatMap_append]; simp
theorem revE_len (h : Int) (e : Ed) (k : Nat) : (revE h e k).length ≤ k := by
  induction k with
  | zero => simp [revE]
  | succ k ih =>
    by_cases hk : k < e.2.2.length
    · rw [revE_succ hk, List.length_append]
      split <;> simp <;> omega
    · have : e.2.2.take (k + 1) = e.2.2.take k := by rw [List.take_of_length_le (by omega), List.take_of_length_le (by omega)]
      unfold revE at ih ⊢
      rw [this]; omega
theorem revEs_len {g : Gr} (R : Right g) (i : Nat) (hi : i ≤ g.edges.length) : (revEs g i).length ≤ i * 6 := by
  induction i with
  | zero => simp [revEs]
  | succ i ih =>
    have h1 := ih (by omega)
    have h2 := revE_len g.hor g.edges[i] g.edges[i].2.2.length
    have h3 := (R.ends _ (List.getElem_mem (show i < g.edges.length by omega))).2.2
    rw [revEs_succ (by omega), List.length_append]
    omega

/-- the scan of the times: from and to behind the first k times -/
def scF (h : Int) (l : Lg) (k : Nat) : Int := if rvA h l < min (k : Int) (rvB h l) then rvA h l else -1
def scT (h : Int) (l : Lg) (k : Nat) : Int := if rvA h l < min (k : Int) (rvB h l) then min (k : Int) (rvB h l) else -1
theorem sc_start (h : Int) (l : Lg) : scF h l 0 = -1 ∧ scT h l 0 = -1 := by
  unfold scF scT rvA
  constructor <;> rw [if_neg (by omega)]
theorem sc_in {h : Int} {l : Lg} {k : Nat} (h1 : l.1 ≤ h - 1 - (k : Int) - l.2.2.1) (h2 : h - 1 - (k : Int) - l.2.2.1 < l.2.1) : (scF h l (k + 1) = if scF h l k < 0 then (k : Int) else scF h l k) ∧ scT h l (k + 1) = (k : Int) + 1 := by
  unfold scF scT
  have ha : rvA h l ≤ (k : Int) := by unfold rvA; omega
  have hb : (k : Int) < rvB h l := by unfold rvB; omega
  have h0 : 0 ≤ rvA h l := by unfold rvA; omega
  have e1 : min ((k + 1 : Nat) : Int) (rvB h l) = (k : Int) + 1 := by omega
  have e2 : min (k : Int) (rvB h l) = (k : Int) := by omega
  rw [e1, e2]
  refine ⟨?_, by rw [if_pos (by omega)]⟩
  rw [if_pos (show rvA h l < (k : Int) + 1 by omega)]
  by_cases c : rvA h l < (k : Int)
  · rw [if_pos c, if_neg (by omega)]
  · rw [if_neg c, if_pos (by omega)]; omega
theorem sc_out {h : Int} {l : Lg} {k : Nat} (hc : ¬ (l.1 ≤ h - 1 - (k : Int) - l.2.2.1 ∧ h - 1 - (k : Int) - l.2.2.1 < l.2.1)) : scF h l (k + 1) = scF h l k ∧ scT h l (k + 1) = scT h l k := by
  unfold scF scT
  have hk : rvB h l ≤ (k : Int) ∨ (k : Int) < rvA h l := by unfold rvB rvA; omega
  rcases hk with c | c
  · have e1 : min ((k + 1 : Nat) : Int) (rvB h l) = rvB h l := by omega
    have e2 : min (k : Int) (rvB h l) = rvB h l := by omega
    rw [e1, e2]
    exact ⟨rfl, rfl⟩
  · rw [if_neg (by omega), if_neg (by omega), if_neg (by omega), if_neg (by omega)]
    exact ⟨rfl, rfl⟩
theorem sc_end {H : Nat} {l : Lg} (hf : fitB l (H : Int) = true) : (0 < rvB (H : Int) l → scF H l H = rvA H l ∧ scT H l H = rvB H l ∧ 0 ≤ rvA H l) ∧ (¬ 0 < rvB (H : Int) l → scF H l H = -1) := by
  have h := (fitB_iff l (H : Int)).1 hf
  have hle : rvB (H : Int) l < (H : Int) := by unfold rvB; omega
  unfold scF scT
  have e : min ((H : Nat) : Int) (rvB (H : Int) l) = rvB (H : Int) l := by omega
  rw [e]
  constructor
  · intro hb
    have : rvA (H : Int) l < rvB (H : Int) l := by unfold rvA; unfold rvB at hb ⊢; omega
    rw [if_pos this, if_pos this]
    exact ⟨rfl, rfl, by unfold rvA; omega⟩
  · intro hb
    rw [if_neg (by unfold rvA; omega)]

end Go.Proofs.Ytanbbkoleekmjag

namespace Go.Proofs.Ytanbbkoleekmjag
open Go

/-- each operation waits for earlier ones alone, and none is guarded -/
def fwdB (ops : Array Oper) : Bool := (List.range ops.size).all fun j => match ops[j]? with
  | some o => o.guard.isNone && o.after.all fun e => !Region.binds .any e || decide (e.on < j)
  | none => true
/-- the last one waits for each of the others, itself or by way of another one -/
def lastB (ops : Array Oper) (st : Oper) : Bool := st.guard.isNone && (st.after.all (fun e => !Region.binds .any e || decide (e.on < ops.size)) && (List.range ops.size).all fun j =>
  st.after.any (fun e => Region.binds .any e && e.on == j) || (List.range ops.size).any fun k => decide (j < k) && match ops[k]? with
    | some o => o.after.any fun e => Region.binds .any e && e.on == j
    | none => false)

theorem fwd_spec {ops : Array Oper} (h : fwdB ops = true) {j : Nat} {o : Oper} (hj : ops[j]? = some o) : o.guard = none ∧ ∀ e ∈ o.after, Region.binds .any e = true → e.on < j := by
  have hlt : j < ops.size := (Array.getElem?_eq_some_iff.1 hj).1
  have := List.all_eq_true.1 h j (List.mem_range.2 hlt)
  simp only [hj, Bool.and_eq_true, Option.isNone_iff_eq_none, Array.all_eq_true_iff_forall_mem] at this
  refine ⟨this.1, fun e he hb => ?_⟩
  have h2 := this.2 e he
  rw [hb] at h2
  simpa using h2

/-- what is listed has all that it waits for listed -/
def Closed (ops : Array Oper) (listed : Array Bool) : Prop := ∀ (j : Nat) (o : Oper), ops[j]? = some o → listed.getD j true = true → ∀ e ∈ o.after, Region.binds .any e = true → listed.getD e.on false = true

theorem all_listed {ops : Array Oper} {listed : Array Bool} (hf : fwdB ops = true) (hsz : listed.size = ops.size) (hr : Region.ready .any ops listed = []) : ∀ j, j < ops.size → listed.getD j false = true := by
  intro j
  induction j using Nat.strongRecOn with
  | _ j ih =>
    intro hj
    have ho : ops[j]? = some ops[j] := Array.getElem?_eq_getElem hj
    cases hl : listed.getD j false with
    | true => rfl
    | false =>
      have hm : j ∈ Region.ready .any ops listed := by
        rw [mem_ready]
        have hj' : j < listed.size := by omega
        refine ⟨by simpa [hj'] using hl, _, ho, fun e he hb => ?_⟩
        have := (fwd_spec hf ho).2 e he hb
        exact ih e.on this (by omega)
      rw [hr] at hm
      cases hm

theorem arr_any {α : Type} {l : Array α} {p : α → Bool} (h : l.any p = true) : ∃ e ∈ l, p e = true := by
  rw [← Array.any_toList] at h
  obtain ⟨e, he, h2⟩ := List.any_eq_true.1 h
  exact ⟨e, by simpa using he, h2⟩

theorem last_waits {ops : Array Oper} {st : Oper} {listed : Array Bool} (hl : lastB ops st = true) (hc : Closed ops listed) (hsz : listed.size = ops.size) (hs : ∀ e ∈ st.after, Region.binds .any e = true → e.on < ops.size → listed.getD e.on false = true) : ∀ d j, j + d = ops.size → j < ops.size → listed.getD j false = true := by
  simp only [lastB, Bool.and_eq_true] at hl
  intro d
  induction d using Nat.strongRecOn with
  | _ d ih =>
    intro j hd hj
    have h1 := List.all_eq_true.1 hl.2.2 j (List.mem_range.2 hj)
    rw [Bool.or_eq_true] at h1
    rcases h1 with h1 | h1
    · obtain ⟨e, he, h2⟩ := arr_any h1
      rw [Bool.and_eq_true, beq_iff_eq] at h2
      rw [← h2.2]
      exact hs e he h2.1 (by rw [h2.2]; exact hj)
    · obtain ⟨k, hk, h2⟩ := List.any_eq_true.1 h1
      rw [List.mem_range] at hk
      rw [Bool.and_eq_true, decide_eq_true_eq] at h2
      have ho : ops[k]? = some ops[k] := Array.getElem?_eq_getElem hk
      simp only [ho] at h2
      obtain ⟨e, he, h3⟩ := arr_any h2.2
      rw [Bool.and_eq_true, beq_iff_eq] at h3
      have hkl := ih (d - (k - j)) (by omega) k (by omega) hk
      rw [← h3.2]
      refine hc k _ ho ?_ e he h3.1
      have hk' : k < listed.size := by omega
      simpa [hk'] using hkl

theorem getD_push {l : Array Bool} {j : Nat} (d : Bool) (h : j < l.size) : (l.push false).getD j d = l.getD j d := by
  have h' : j < (l.push false).size := by simp; omega
  unfold Array.getD
  rw [dif_pos h', dif_pos h]
  exact Array.getElem_push_lt h

theorem getElem_pushO {ops : Array Oper} {st : Oper} {j : Nat} (h : j < ops.size) : (ops.push st)[j]? = ops[j]? := by
  rw [Array.getElem?_push, if_neg (by omega)]

theorem ready_push {ops : Array Oper} {st : Oper} {listed : Array Bool} (hf : fwdB ops = true) (hl : lastB ops st = true) (hc : Closed ops listed) (hsz : listed.size = ops.size) (hne : Region.ready .any ops listed ≠ []) (i : Nat) :
    i ∈ Region.ready .any (ops.push st) (listed.push false) ↔ i ∈ Region.ready .any ops listed := by
  rw [mem_ready, mem_ready]
  rcases Nat.lt_trichotomy i ops.size with hi | hi | hi
  · rw [getD_push true (by omega), getElem_pushO hi]
    refine and_congr_right fun _ => exists_congr fun o => and_congr_right fun ho => forall_congr' fun e => forall_congr' fun he => forall_congr' fun hb => ?_
    have := (fwd_spec hf ho).2 e he hb
    rw [getD_push false (by omega)]
  · subst hi
    constructor
    · rintro ⟨_, o, ho, hall⟩
      have ho' : o = st := by
        rw [Array.getElem?_push, if_pos rfl] at ho
        exact (Option.some.inj ho).symm
      subst ho'
      exfalso
      apply hne
      have hall2 := last_waits hl hc hsz (fun e he hb hlt => by have := hall e he hb; rwa [getD_push false (by omega)] at this)
      apply List.eq_nil_iff_forall_not_mem.2
      intro j hj
      rw [mem_ready] at hj
      obtain ⟨h0, o, hoj, _⟩ := hj
      have hjlt : j < ops.size := (Array.getElem?_eq_some_iff.1 hoj).1
      have h1 := hall2 (ops.size - j) j (by omega) hjlt
      have hj' : j < listed.size := by omega
      simp [hj'] at h0 h1
      rw [h0] at h1
      cases h1
    · rintro ⟨_, o, ho, _⟩
      rw [Array.getElem?_eq_none (Nat.le_refl _)] at ho
      cases ho
  · constructor
    · rintro ⟨_, o, ho, _⟩
      rw [Array.getElem?_eq_none (by simp; omega)] at ho
      cases ho
    · rintro ⟨_, o, ho, _⟩
      rw [Array.getElem?_eq_none (by omega)] at ho
      cases ho

theorem ready_last {ops : Array Oper} {st : Oper} {listed : Array Bool} (hl : lastB ops st = true) (hsz : listed.size = ops.size) (hall : ∀ j, j < ops.size → listed.getD j false = true) (i : Nat) :
    i ∈ Region.ready .any (ops.push st) (listed.push false) ↔ i = ops.size := by
  rw [mem_ready]
  simp only [lastB, Bool.and_eq_true] at hl
  rcases Nat.lt_trichotomy i ops.size with hi | hi | hi
  · have h1 := hall i hi
    have hi' : i < listed.size := by omega
    constructor
    · rintro ⟨h0, _⟩
      rw [getD_push true hi'] at h0
      simp [hi'] at h0 h1
      rw [h0] at h1
      cases h1
    · intro h; omega
  · subst hi
    refine ⟨fun _ => rfl, fun _ => ⟨by simp [← hsz], st, by rw [Array.getElem?_push, if_pos rfl], fun e he hb => ?_⟩⟩
    have h2 := Array.all_eq_true_iff_forall_mem.1 hl.2.1 e he
    rw [hb] at h2
    have h3 : e.on < ops.size := by simpa using h2
    rw [getD_push false (by omega)]
    exact hall e.on h3
  · constructor
    · rintro ⟨_, o, ho, _⟩
      rw [Array.getElem?_eq_none (by simp; omega)] at ho
      cases ho
    · intro h; omega

theorem ready_done {ops : Array Oper} {st : Oper} {listed : Array Bool} (hsz : listed.size = ops.size) (hall : ∀ j, j < ops.size → listed.getD j false = true) : Region.ready .any (ops.push st) ((listed.push false).setIfInBounds ops.size true) = [] := by
  apply List.eq_nil_iff_forall_not_mem.2
  intro j hj
  rw [mem_ready] at hj
  obtain ⟨h0, o, hoj, _⟩ := hj
  have hjlt : j < ops.size + 1 := by simpa using (Array.getElem?_eq_some_iff.1 hoj).1
  by_cases e : j = ops.size
  · subst e
    simp [hsz] at h0
  · have hj' : j < listed.size := by omega
    have h1 := hall j (by omega)
    have h2 : ((listed.push false).setIfInBounds ops.size true).getD j true = (listed.push false).getD j true := by
      exact getD_set_ne true (Ne.symm e)
    rw [h2, getD_push true hj'] at h0
    simp [hj'] at h0 h1
    rw [h0] at h1
    cases h1

/-- the post of the others: the last one goes behind them -/
def BackQ (P : Program) (st : Oper) (Q : Exit → Act → World → Prop) : Exit → Act → World → Prop
  | .normal, a, w => st.wp P a w (fun a' w' => Q .normal a' w') Q
  | e, a, w => Q e a w

theorem wp_back {P : Program} {o st : Oper} {Q : Exit → Act → World → Prop} {K K' : Act → World → Prop} {a : Act} {w : World} (hK : ∀ a w, K a w → K' a w) (h : o.wp P a w K (BackQ P st Q)) : o.wp P a w K' Q := by
  unfold Oper.wp at *
  generalize (execOp a.eval o).run P w = r at *
  cases r with
  | ok n w' =>
    cases n <;> simp only [Oper.upon] at h ⊢ <;>
      first
        | exact hK _ _ h
        | exact Calls.mono h (fun e w'' he => by cases e <;> first | exact hK _ _ he | exact he)
        | exact Rows.mono h (fun _ _ he => hK _ _ he)
  | halt x w' => cases x <;> simp only [Oper.upon] at h ⊢ <;> exact h

theorem pop_sound {P : Program} {ops : Array Oper} {st : Oper} {Q : Exit → Act → World → Prop} (hf : fwdB ops = true) (hl : lastB ops st = true) : ∀ (fuel : Nat) (listed : Array Bool) (a : Act) (w : World), listed.size = ops.size → Closed ops listed →
    wpAny P .any ops (BackQ P st Q) fuel listed a w → wpAny P .any (ops.push st) Q (fuel + 1) (listed.push false) a w := by
  have hgd : st.guard = none := by
    simp only [lastB, Bool.and_eq_true, Option.isNone_iff_eq_none] at hl
    exact hl.1
  have fin : ∀ (fuel : Nat) (listed : Array Bool) (a : Act) (w : World), listed.size = ops.size → Region.ready .any ops listed = [] → BackQ P st Q .normal a w → wpAny P .any (ops.push st) Q (fuel + 1) (listed.push false) a w := by
    intro fuel listed a w hsz hr hq
    have hall := all_listed hf hsz hr
    refine ⟨fun h => ?_, fun i hi => ?_⟩
    · have := (ready_last (st := st) hl hsz hall ops.size).2 rfl
      rw [h] at this
      cases this
    · rw [ready_last hl hsz hall] at hi
      subst hi
      have ho : (ops.push st)[ops.size]? = some st := by rw [Array.getElem?_push, if_pos rfl]
      unfold wpOp
      simp only [ho, Region.wanted, hgd, if_true]
      refine .inl (Oper.wp_mono (fun a' w' h => ?_) hq)
      have hd := ready_done (st := st) hsz hall
      cases fuel with
      | zero => exact ⟨hd, h⟩
      | succ n => exact ⟨fun _ => h, by rw [hd]; simp⟩
  intro fuel
  induction fuel with
  | zero =>
    intro listed a w hsz hc h
    exact fin 0 listed a w hsz h.1 h.2
  | succ fuel ih =>
    intro listed a w hsz hc h
    by_cases hr : Region.ready .any ops listed = []
    · exact fin (fuel + 1) listed a w hsz hr (h.1 hr)
    · refine ⟨fun h0 => ?_, fun i hi => ?_⟩
      · exfalso
        apply hr
        apply List.eq_nil_iff_forall_not_mem.2
        intro j hj
        have := (ready_push hf hl hc hsz hr j).2 hj
        rw [h0] at this
        cases this
      · have hi' := (ready_push hf hl hc hsz hr i).1 hi
        have h1 := h.2 i hi'
        obtain ⟨hun, o, ho, hdep⟩ := mem_ready.1 hi'
        have hilt : i < ops.size := (Array.getElem?_eq_some_iff.1 ho).1
        have ho' : (ops.push st)[i]? = some o := by rw [getElem_pushO hilt]; exact ho
        have hg := (fwd_spec hf ho).1
        have eset : (listed.push false).setIfInBounds i true = (listed.setIfInBounds i true).push false := by
          apply Array.ext_getElem?
          intro k
          rw [Array.getElem?_setIfInBounds, Array.getElem?_push, Array.getElem?_push, Array.getElem?_setIfInBounds]
          have hil : i < listed.size := by omega
          by_cases h3 : i = k
          · subst h3
            simp [hil, Nat.ne_of_lt hil]
            omega
          · simp [h3]
        have hc' : Closed ops (listed.setIfInBounds i true) := by
          intro j oj hoj hlj e he hb
          by_cases hij : i = j
          · subst hij
            rw [ho] at hoj
            cases hoj
            exact getD_set_true (hdep e he hb)
          · rw [getD_set_ne true hij] at hlj
            exact getD_set_true (hc j oj hoj hlj e he hb)
        unfold wpOp at h1 ⊢
        simp only [ho, ho', Region.wanted, hg, if_true] at h1 ⊢
        rw [eset]
        refine h1.imp (fun hh => wp_back (fun a' w' hk => ih _ a' w' (by simpa using hsz) hc' hk) hh) (fun hh => ⟨hh.1, hh.2⟩)

/-- the beginning -/
theorem wp_region_pop {P : Program} {id : Nat} {ops : Array Oper} {st : Oper} {Q : Exit → Act → World → Prop} {S : World → Prop} {a : Act} {w : World} (hm : P.follows .mixedOrders = true) (hf : fwdB ops = true) (hl : lastB ops st = true) (hS : S w.drew)
    (h : S w.drew → wpAnyH P .any ops (BackQ P st Q) S ops.size (Array.replicate ops.size false) a w.drew) : (Code.region id (ops.push st) true).wp P Q a w := by
  refine wp_region_any hm ?_
  have h1 := wpAny_of_held _ _ _ _ (h hS)
  have h2 := pop_sound hf hl ops.size _ a w.drew (by simp) (by
    intro j o hj hlj
    have : j < ops.size := (Array.getElem?_eq_some_iff.1 hj).1
    simp [this] at hlj) h1
  have e1 : (Array.replicate ops.size false).push false = Array.replicate (ops.push st).size false := by
    apply Array.ext
    · simp
    · intro k h1 h2
      simp [Array.getElem_push]
  rw [e1] at h2
  have e2 : (ops.push st).size = ops.size + 1 := by simp
  rw [e2] at h2 ⊢
  exact h2

/-- a value that is there in every world that meets the condition is taken first -/
theorem take_lit {P : Program} {l : List Oper} {Q : Exit → Act → World → Prop} {md : Region.Mode} {S : World → Prop} {i : Nat} {oi : Oper} {v : Value} {fuel : Nat} {listed : Array Bool} {a : Act} {w : World} (hi : l[i]? = some oi)
    (hs : Region.noSelect l.toArray = true) (hf : Region.free md l.toArray listed i = true) (hr : (Region.ready md l.toArray listed).contains i = true)
    (hQ : ∀ c a w, Q (.panic c) (a.put oi.dst v) w → Q (.panic c) a w) (hy : YieldsIf P l.toArray S oi v a) (hS : S w)
    (h : wpAnyH P md l.toArray Q S fuel (listed.setIfInBounds i true) (a.put oi.dst v) w) : wpAnyH P md l.toArray Q S (fuel + 1) listed a w :=
  wpAnyH_take (by simpa using hi) hs hf hr hQ hy hS h
/-- the one operation that may come up comes up -/
theorem next_lit {P : Program} {l : List Oper} {Q : Exit → Act → World → Prop} {md : Region.Mode} {S : World → Prop} {i : Nat} {o : Oper} {fuel : Nat} {listed : Array Bool} {a : Act} {w : World} (ho : l[i]? = some o) (hr : Region.ready md l.toArray listed = [i])
    (h : ∀ K' : Act → World → Prop, Shut (∀ a w, S w → (S w → wpAnyH P md l.toArray Q S fuel (listed.setIfInBounds i true) a w) → K' a w) → if Region.wanted o (yielded l.toArray a.tmps) = true then Oper.wp P o a w K' Q else K' (a.put o.dst undef) w) : wpAnyH P md l.toArray Q S (fuel + 1) listed a w :=
  wpAnyH_ready hr (by simp) (AllReadyH.cons (by simpa using ho) h AllReadyH.nil)
/-- .. of a region as it is written out -/
theorem wp_region_back {P : Program} {id : Nat} {full : Array Oper} {Q : Exit → Act → World → Prop} {S : World → Prop} {a : Act} {w : World} (hm : P.follows .mixedOrders = true) (hn : 0 < full.size) (hf : fwdB full.pop = true) (hl : lastB full.pop full.back! = true) (hS : S w.drew)
    (h : S w.drew → wpAnyH P .any full.pop (BackQ P full.back! Q) S full.pop.size (Array.replicate full.pop.size false) a w.drew) : (Code.region id full true).wp P Q a w := by
  have e : full = full.pop.push full.back! := (Array.eq_push_pop_back!_of_size_ne_zero (by omega))
  rw [e]
  exact wp_region_pop hm hf hl hS h
theorem back_last {P : Program} {st : Oper} {Q : Exit → Act → World → Prop} {a : Act} {w : World} (h : ∀ K, Shut (∀ a w, Q .normal a w → K a w) → st.wp P a w K Q) : BackQ P st Q .normal a w :=
  h (fun a w => Q .normal a w) (fun _ _ h => h)

end Go.Proofs.Ytanbbkoleekmjag

namespace Go.Proofs.Ytanbbkoleekmjag
open Go.RowKit

theorem within_any (n lo hi : Int) (w : World) : Calls Try.prog 43 #[.int .i64 n, .int .i64 lo, .int .i64 hi] w fun e w' => e = .returned (.bool (inR n lo hi)) ∧ w' = w := by
  by_cases g1 : lo ≤ n
  · by_cases g2 : n ≤ hi
    · have HC := hideg ((inR_iff n lo hi).2 ⟨g1, g2⟩)
      go_enter Try.func43, Try.ntmps43
      go_wp2
      go_ret
      exact ⟨ret_bool HC.out.symm, rfl⟩
    · have HC := hideg (inR_no (n := n) (lo := lo) (hi := hi) (fun h => g2 h.2))
      go_enter Try.func43, Try.ntmps43
      go_wp2
      go_ret
      exact ⟨ret_bool HC.out.symm, rfl⟩
  · have HC := hideg (inR_no (n := n) (lo := lo) (hi := hi) (fun h => g1 h.1))
    go_enter Try.func43, Try.ntmps43
    go_wp2
    go_ret
    exact ⟨ret_bool HC.out.symm, rfl⟩

theorem span_any (a b h : Int) (w : World) : Calls Try.prog 44 #[.int .i64 a, .int .i64 b, .int .i64 h] w fun e w' => e = .returned (.bool (spanB a b h)) ∧ w' = w := by
  by_cases g1 : 0 ≤ a
  · by_cases g2 : a < b
    · by_cases g3 : b ≤ h
      · have HC := hideg ((spanB_iff a b h).2 ⟨g1, g2, g3⟩)
        go_enter Try.func44, Try.ntmps44
        go_wp2
        go_ret
        exact ⟨ret_bool HC.out.symm, rfl⟩
      · have HC := hideg (spanB_no (a := a) (b := b) (h := h) (fun k => g3 k.2.2))
        go_enter Try.func44, Try.ntmps44
        go_wp2
        go_ret
        exact ⟨ret_bool HC.out.symm, rfl⟩
    · have HC := hideg (spanB_no (a := a) (b := b) (h := h) (fun k => g2 k.2.1))
      go_enter Try.func44, Try.ntmps44
      go_wp2
      go_ret
      exact ⟨ret_bool HC.out.symm, rfl⟩
  · have HC := hideg (spanB_no (a := a) (b := b) (h := h) (fun k => g1 k.1))
    go_enter Try.func44, Try.ntmps44
    go_wp2
    go_ret
    exact ⟨ret_bool HC.out.symm, rfl⟩

set_option maxHeartbeats 1000000 in
theorem fits_any (l : Lg) (h : Int) (w : World) : Calls Try.prog 61 #[.agg #[.int .i64 l.1, .int .i64 l.2.1, .int .i64 l.2.2.1, .int .i64 l.2.2.2], .int .i64 h] w fun e w' => e = .returned (.bool (fitB l h)) ∧ Below w.heap.size w w' := by
  have HB := hideg (gal w)
  have HF : Hid (fitB l h = (spanB l.1 l.2.1 h && (inR l.2.2.1 1 50 && inR l.2.2.2 0 1000))) := rfl
  cases e1 : spanB l.1 l.2.1 h <;> cases e2 : inR l.2.2.1 1 50 <;> cases e3 : inR l.2.2.2 0 1000 <;> rw [e1, e2, e3] at HF
  all_goals
    go_enter Try.func61, Try.ntmps61
    go_wp2_with (first | (go_at_call 44; refine (span_any _ _ _ _).mono ?_; rintro e w' ⟨rfl, rfl⟩) | (go_at_call 43; refine (within_any _ _ _ _).mono ?_; rintro e w' ⟨rfl, rfl⟩))
    go_ret
    exact ⟨ret_bool HF.out.symm, HB.out _⟩

set_option maxRecDepth 100000 in
theorem gHasV_any (h : Int) (la ea : Option Addr) (nl lc ne ec : Nat) (v : Int) (w : World) (hnl : nl ≤ 12) :
    Calls Try.prog 29 #[.agg #[.int .i64 h, .slice la nl lc, .slice ea ne ec], .int .i64 v] w fun r w' => r = .returned (.bool (inR v 0 ((nl : Int) - 1))) ∧ Below w.heap.size w w' := by
  have HB := hideg (gal w)
  go_enter Try.func29, Try.ntmps29
  go_wp2_with (go_at_call 43; refine (within_any _ _ _ _).mono ?_; rintro e w' ⟨rfl, rfl⟩)
  go_ret
  exact ⟨rfl, HB.out _⟩

set_option maxRecDepth 100000 in
theorem gHasT_any (h : Int) (la ea : Option Addr) (nl lc ne ec : Nat) (t : Int) (w : World) (h0 : 1 ≤ h) (h1 : h ≤ 100) :
    Calls Try.prog 40 #[.agg #[.int .i64 h, .slice la nl lc, .slice ea ne ec], .int .i64 t] w fun r w' => r = .returned (.bool (inR t 0 (h - 1))) ∧ Below w.heap.size w w' := by
  have HB := hideg (gal w)
  go_enter Try.func40, Try.ntmps40
  go_wp2_with (go_at_call 43; refine (within_any _ _ _ _).mono ?_; rintro e w' ⟨rfl, rfl⟩)
  go_ret
  exact ⟨rfl, HB.out _⟩

end Go.Proofs.Ytanbbkoleekmjag

namespace Go.Proofs.Ytanbbkoleekmjag
open Go.RowKit

theorem edChk_none {h n : Int} {e : Ed} (k : (inR e.1 0 (n - 1) && inR e.2.1 0 (n - 1)) = false) : edChk h n e = 4 := by unfold edChk; rw [if_pos k]
theorem edChk_large {h n : Int} {e : Ed} (k : (inR e.1 0 (n - 1) && inR e.2.1 0 (n - 1)) = true) (l : 6 < e.2.2.length) : edChk h n e = 2 := by unfold edChk; rw [if_neg (by simp [k]), if_pos l]
theorem edChk_legs {h n : Int} {e : Ed} (k : (inR e.1 0 (n - 1) && inR e.2.1 0 (n - 1)) = true) (l : ¬ 6 < e.2.2.length) : edChk h n e = lgChk h 0 e.2.2 := by unfold edChk; rw [if_neg (by simp [k]), if_neg l]

set_option maxRecDepth 100000 in
set_option maxHeartbeats 4000000 in
theorem checkEdge_any (h : Int) (la ea : Option Addr) (nl lc ne ec : Nat) (e : Ed) (lo : Option Addr) (lcap : Nat) (w : World) (hL : LgAt w lo e.2.2) (hnl : nl ≤ 12) :
    Calls Try.prog 45 #[.agg #[.int .i64 h, .slice la nl lc, .slice ea ne ec], .agg #[.int .i64 e.1, .int .i64 e.2.1, .slice lo e.2.2.length lcap]] w fun r w' => r = .returned (.int .i64 (edChk h nl e)) ∧ Below w.heap.size w w' := by
  obtain ⟨A, B, legs⟩ := e
  simp only at hL ⊢
  have HB : Hid (∀ o o', Below w.heap.size w ((w.alloc o).alloc o')) := fun o o' => ptg (gal w o) (gal _ o')
  obtain ⟨W2, hW2⟩ : ∃ x, x = (w.alloc (.cells #[.int .i64 h, .slice la nl lc, .slice ea ne ec] 25)).alloc (.cells #[.int .i64 A, .int .i64 B, .slice lo legs.length lcap] 78) := ⟨_, rfl⟩
  have HQ2 : Hid (∀ W, Below (w.heap.size + 2) W2 W → W.cell? ⟨w.heap.size, 0, none⟩ = some (.int .i64 h) ∧ W.cell? ⟨w.heap.size, 1, none⟩ = some (.slice la nl lc) ∧ W.cell? ⟨w.heap.size, 2, none⟩ = some (.slice ea ne ec) ∧ W.cell? ⟨w.heap.size + 1, 0, none⟩ = some (.int .i64 A) ∧ W.cell? ⟨w.heap.size + 1, 1, none⟩ = some (.int .i64 B) ∧ W.cell? ⟨w.heap.size + 1, 2, none⟩ = some (.slice lo legs.length lcap)) := by
    intro W hb
    refine ⟨?_, ?_, ?_, ?_, ?_, ?_⟩
    · rw [hb.cell (p := ⟨w.heap.size, 0, none⟩) (by simp), hW2]; simp
    · rw [hb.cell (p := ⟨w.heap.size, 1, none⟩) (by simp), hW2]; simp
    · rw [hb.cell (p := ⟨w.heap.size, 2, none⟩) (by simp), hW2]; simp
    · rw [hb.cell (p := ⟨w.heap.size + 1, 0, none⟩) (by simp), hW2]; simp
    · rw [hb.cell (p := ⟨w.heap.size + 1, 1, none⟩) (by simp), hW2]; simp
    · rw [hb.cell (p := ⟨w.heap.size + 1, 2, none⟩) (by simp), hW2]; simp
  have hs2 : W2.heap.size = w.heap.size + 2 := by rw [hW2]; simp
  have HW : Hid (∀ W, Below (w.heap.size + 2) W2 W → Below w.heap.size w W) := fun W hb => by rw [hW2] at hb; exact (HB.out _ _).trans (hb.mono (by omega))
  have hvA := fun W => gHasV_any h la ea nl lc ne ec A W hnl
  have hvB := fun W => gHasV_any h la ea nl lc ne ec B W hnl
  have HS2 := hideg hs2
  have hW2s := hW2.symm
  clear hs2 hW2
  cases e1 : inR A 0 ((nl : Int) - 1)
  · have HC := hideg (edChk_none (h := h) (n := nl) (e := (A, B, legs)) (by simp [e1]))
    rw [e1] at hvA
    have Q := HQ2.out W2 (Below.refl _ _)
    obtain ⟨q0, q1, q2, q3, q4, q5⟩ := Q
    clear hL hvB e1
    go_enter Try.func45, Try.ntmps45
    go_wp2_with fail
    refine (hvA _).mono ?_
    rintro e w3 ⟨rfl, hb3⟩
    have hbF := HW.out w3 (by rw [HS2.out] at hb3; exact hb3)
    clear hvA hb3 hW2s q0 q1 q2 q3 q4 q5
    go_wp2
    go_ret
    exact ⟨ret_int HC.out.symm, hbF⟩
  cases e2 : inR B 0 ((nl : Int) - 1)
  · have HC := hideg (edChk_none (h := h) (n := nl) (e := (A, B, legs)) (by simp [e2]))
    rw [e1] at hvA
    rw [e2] at hvB
    obtain ⟨q0, q1, q2, q3, q4, q5⟩ := HQ2.out W2 (Below.refl _ _)
    clear hL e1 e2
    go_enter Try.func45, Try.ntmps45
    go_wp2_with fail
    refine (hvA _).mono ?_
    rintro e w3 ⟨rfl, hb3⟩
    rw [HS2.out] at hb3
    have HB3 := hideg hb3
    clear hvA hb3 hW2s q0 q1 q2 q3 q4 q5
    obtain ⟨q0, q1, q2, q3, q4, q5⟩ := HQ2.out w3 HB3.out
    go_wp2_with fail
    refine (hvB _).mono ?_
    rintro e w4 ⟨rfl, hb4⟩
    have hbF := HW.out w4 (HB3.out.trans (hb4.mono (by have := HB3.out.size; have := HS2.out; omega)))
    clear hvB hb4 q0 q1 q2 q3 q4 q5
    go_wp2
    go_ret
    exact ⟨ret_int HC.out.symm, hbF⟩
  rw [e1] at hvA
  rw [e2] at hvB
  by_cases h6 : 6 < legs.length
  · have HC := hideg (edChk_large (h := h) (n := nl) (e := (A, B, legs)) (by simp [e1, e2]) h6)
    obtain ⟨q0, q1, q2, q3, q4, q5⟩ := HQ2.out W2 (Below.refl _ _)
    clear hL e1 e2
    go_enter Try.func45, Try.ntmps45
    go_wp2_with fail
    refine (hvA _).mono ?_
    rintro e w3 ⟨rfl, hb3⟩
    rw [HS2.out] at hb3
    have HB3 := hideg hb3
    clear hvA hb3 hW2s q0 q1 q2 q3 q4 q5
    obtain ⟨q0, q1, q2, q3, q4, q5⟩ := HQ2.out w3 HB3.out
    go_wp2_with fail
    refine (hvB _).mono ?_
    rintro e w4 ⟨rfl, hb4⟩
    have HB4 := hideg (HB3.out.trans (hb4.mono (by have := HB3.out.size; have := HS2.out; omega)))
    have hbF := HW.out w4 HB4.out
    clear hvB hb4 q0 q1 q2 q3 q4 q5
    obtain ⟨q0, q1, q2, q3, q4, q5⟩ := HQ2.out w4 HB4.out
    go_wp2
    go_ret
    exact ⟨ret_int HC.out.symm, hbF⟩
  have HC := hideg (edChk_legs (h := h) (n := nl) (e := (A, B, legs)) (by simp [e1, e2]) h6)
  have h6' : legs.length ≤ 6 := by omega
  obtain ⟨q0, q1, q2, q3, q4, q5⟩ := HQ2.out W2 (Below.refl _ _)
  clear e1 e2
  go_enter Try.func45, Try.ntmps45
  go_wp2_with fail
  refine (hvA _).mono ?_
  rintro e w3 ⟨rfl, hb3⟩
  rw [HS2.out] at hb3
  have HB3 := hideg hb3
  clear hvA hb3 hW2s q0 q1 q2 q3 q4 q5
  obtain ⟨q0, q1, q2, q3, q4, q5⟩ := HQ2.out w3 HB3.out
  go_wp2_with fail
  refine (hvB _).mono ?_
  rintro e w4 ⟨rfl, hb4⟩
  have HB4 := hideg (HB3.out.trans (hb4.mono (by have := HB3.out.size; have := HS2.out; omega)))
  clear hvB hb4 q0 q1 q2 q3 q4 q5
  obtain ⟨q0, q1, q2, q3, q4, q5⟩ := HQ2.out w4 HB4.out
  go_wp2_with fail
  go_loopw [6, 26] (fun _ i wr => ∃ k : Nat, k ≤ legs.length ∧ i = .int .i64 k ∧ lgChk h 0 legs = lgChk h (prevTo legs k) (legs.drop k) ∧ Below (w.heap.size + 2) W2 wr) (fun _ i _ => legs.length - (intOf i).toNat)
  case atStart => exact ⟨0, Nat.zero_le _, rfl, rfl, HB4.out⟩
  case round =>
    obtain ⟨k, hk, rfl, hI, hb⟩ := hrel
    have HI := hideg hI
    clear hI
    have hbw : Below w.heap.size w wr := HW.out wr hb
    clear q0 q1 q2 q3 q4 q5
    by_cases hlt : k < legs.length
    · have hz := hb.size
      rw [HS2.out] at hz
      have hz0 : w.heap.size < wr.heap.size := by omega
      have hz1 : w.heap.size + 1 < wr.heap.size := by omega
      rcases hL.below hbw with h0 | ⟨b, off, rfl, hbr, hc⟩
      · subst h0; simp at hlt
      obtain ⟨c0, c1, c2, c3⟩ := LgAt.get hlt hc
      have q0 : wr.cell? ⟨w.heap.size, 0, none⟩ = some (.int .i64 h) := (HQ2.out wr hb).1
      have HN : Hid (∀ o w1, Below (wr.alloc o).heap.size (wr.alloc o) w1 → Below w.heap.size w w1 ∧ Below (w.heap.size + 2) W2 w1) := by
        intro o w1 h1
        have := ptg (gal wr o) h1
        exact ⟨hbw.trans (this.mono hbw.size), hb.trans (this.mono (by omega))⟩
      cases ef : fitB legs[k] h
      · have HR := hideg (lg_bad hlt HI.out ef)
        clear hc hL
        go_wp2_with (go_at_call 61; refine (fits_any legs[k] _ _).mono ?_; rintro e w1 ⟨rfl, hb1⟩)
        go_ret
        exact ⟨ret_int (by rw [HC.out, HR.out]), (HN.out _ _ hb1).1⟩
      · have hf := (fitB_iff legs[k] h).1 ef
        by_cases hk0 : k = 0
        · subst hk0
          simp only [Nat.zero_mul, Nat.add_zero] at c0 c1 c2 c3
          have HR := hideg (lg_next hlt HI.out ef (by simp only [prevTo]; omega))
          clear hc hL hf
          go_wp2_with (go_at_call 61; refine (fits_any legs[0] _ _).mono ?_; rintro e w1 ⟨rfl, hb1⟩)
          go_quiet (fail)
          go_wp2
          go_roundw
          case rel => exact ⟨0 + 1, by omega, by go_num, HR.out, below_drewN (HN.out _ _ hb1).2 _⟩
          case measure => simp [intOf]; omega
        · obtain ⟨m, rfl⟩ : ∃ m, k = m + 1 := ⟨k - 1, by omega⟩
          have hm : m < legs.length := by omega
          have cp := (LgAt.get hm hc).2.1
          have HP := hideg (prevTo_succ hm)
          have q2 : wr.cell? ⟨w.heap.size + 1, 2, none⟩ = some (.slice (some ⟨b, off, none⟩) legs.length lcap) := (HQ2.out wr hb).2.2.2.2.2
          have HQ : Hid (∀ o w1, Below (wr.alloc o).heap.size (wr.alloc o) w1 → w1.cell? ⟨w.heap.size + 1, 2, none⟩ = some (.slice (some ⟨b, off, none⟩) legs.length lcap) ∧ w1.cell? ⟨b, off + m * 4 + 1, none⟩ = some (.int .i64 legs[m].2.1)) := by
            intro o w1 h1
            have := ptg (gal wr o) h1
            exact ⟨by rw [this.cell (p := ⟨w.heap.size + 1, 2, none⟩) (by simp; omega), q2], by rw [this.cell (p := ⟨b, off + m * 4 + 1, none⟩) hbr, cp]⟩
          by_cases g : legs[m + 1].1 < legs[m].2.1
          · have HR := hideg (lg_form hlt HI.out ef (by rw [HP.out]; exact g))
            clear hc hL hf q2 cp
            go_wp2_with (go_at_call 61; refine (fits_any legs[m + 1] _ _).mono ?_; rintro e w1 ⟨rfl, hb1⟩)
            have hb2 := hideg hb1
            obtain ⟨d2, dp⟩ := HQ.out _ _ hb2.out
            have d0 : w1.cell? ⟨wr.heap.size, 0, none⟩ = some (.int .i64 legs[m + 1].1) := by rw [hb2.out.cell (p := ⟨wr.heap.size, 0, none⟩) (by simp)]; simp
            go_quiet (fail)
            go_wp2
            go_ret
            exact ⟨ret_int (by rw [HC.out, HR.out]), below_drewN (HN.out _ _ hb2.out).1 _⟩
          · have HR := hideg (lg_next hlt HI.out ef (by rw [HP.out]; exact g))
            have dg : decide (legs[m + 1].1 < legs[m].2.1) = false := by simpa using g
            clear hc hL hf q2 cp
            go_wp2_with (go_at_call 61; refine (fits_any legs[m + 1] _ _).mono ?_; rintro e w1 ⟨rfl, hb1⟩)
            have hb2 := hideg hb1
            obtain ⟨d2, dp⟩ := HQ.out _ _ hb2.out
            have d0 : w1.cell? ⟨wr.heap.size, 0, none⟩ = some (.int .i64 legs[m + 1].1) := by rw [hb2.out.cell (p := ⟨wr.heap.size, 0, none⟩) (by simp)]; simp
            go_quiet (fail)
            go_wp2
            go_roundw
            case rel => exact ⟨m + 1 + 1, by omega, by go_num, HR.out, below_drewN (HN.out _ _ hb2.out).2 _⟩
            case measure => simp [intOf]; omega
    · have hkl : k = legs.length := by omega
      subst hkl
      have HR := hideg (lg_end HI.out)
      go_wp2
      go_ret
      exact ⟨ret_int (by rw [HC.out, HR.out]), hbw⟩

end Go.Proofs.Ytanbbkoleekmjag
