/-
  Several texts in one: Math, Sets, Base, GMath, Chk, Has, GBase, Bld, GText, GLib, Tbl, GLine, GChk, GEdge, GCheck, GPrint, GRow, PNum, Pop, PLine, PRead, SpMath, SnMath.
-/
import Derived.Test.YtjjhhmlogddnkaiDoorRows
import Derived.WalkKit
import Derived.WalkSpells
import Derived.WalkLawsBesides
import Derived.Deep.QuietTactic
import Derived.BigQuiet
import Derived.Deep.RegionWith
import Derived.Deep.RegionHeld3
import Derived.Deep.AppendLies
import Derived.Test.YtjjhhmlogddnkaiDoorShelf
import Derived.Lib.ItoaMem
import Derived.Lib.SplitLaws
import Derived.OrdersHeld
import Derived.Deep.RegionHeld

namespace Go.Proofs.YtjjhhmlogddnkaiDoor

/-- a number from -10^9 to 10^9 -/
def nearB (x : Int) : Prop := -1000000000 ≤ x ∧ x ≤ 1000000000

/-- the first k pairs are near -/
def Near (l : List (Int × Int)) (k : Nat) : Prop := ∀ i, i < k → nearB (l.getD i (0, 0)).1 ∧ nearB (l.getD i (0, 0)).2
def nearDec (l : List (Int × Int)) (k : Nat) : Decidable (Near l k) := by unfold Near nearB; infer_instance

/-- the first k pairs rise and don't touch -/
def Form (l : List (Int × Int)) (k : Nat) : Prop := ∀ i, i < k → (l.getD i (0, 0)).1 < (l.getD i (0, 0)).2 ∧ (0 < i → (l.getD (i - 1) (0, 0)).2 < (l.getD i (0, 0)).1)
def goodDec (l : List (Int × Int)) (k : Nat) : Decidable (Near l k ∧ Form l k) := by unfold Near Form nearB; infer_instance

/-- what checkBounds answers -/
def cbs (l : List (Int × Int)) : Int := if 200 < l.length then 2 else @ite Int (Near l l.length) (nearDec l l.length) 0 5
/-- what Check answers -/
def chk (l : List (Int × Int)) : Int := if 200 < l.length then 2 else @ite Int (Near l l.length ∧ Form l l.length) (goodDec l l.length) 0 5

theorem near_succ {l : List (Int × Int)} {k : Nat} (h : Near l k) (h1 : nearB (l.getD k (0, 0)).1) (h2 : nearB (l.getD k (0, 0)).2) : Near l (k + 1) := by
  intro i hi
  by_cases e : i = k
  · subst e; exact ⟨h1, h2⟩
  · exact h i (by omega)
theorem form_succ {l : List (Int × Int)} {k : Nat} (h : Form l k) (h1 : (l.getD k (0, 0)).1 < (l.getD k (0, 0)).2) (h2 : 0 < k → (l.getD (k - 1) (0, 0)).2 < (l.getD k (0, 0)).1) : Form l (k + 1) := by
  intro i hi
  by_cases e : i = k
  · subst e; exact ⟨h1, h2⟩
  · exact h i (by omega)

theorem cbs_large {l : List (Int × Int)} (h : 200 < l.length) : cbs l = 2 := by simp [cbs, h]
theorem cbs_ok {l : List (Int × Int)} (h : l.length ≤ 200) (hn : Near l l.length) : cbs l = 0 := by
  unfold cbs; rw [if_neg (by omega), if_pos hn]
theorem cbs_no {l : List (Int × Int)} {k : Nat} (h : l.length ≤ 200) (hk : k < l.length) (hn : ¬ (nearB (l.getD k (0, 0)).1 ∧ nearB (l.getD k (0, 0)).2)) : cbs l = 5 := by
  unfold cbs; rw [if_neg (by omega), if_neg (fun hh => hn (hh k hk))]
theorem cbs_cases (l : List (Int × Int)) : (cbs l = 2 ∧ 200 < l.length) ∨ (cbs l = 5 ∧ l.length ≤ 200 ∧ ¬ Near l l.length) ∨ (cbs l = 0 ∧ l.length ≤ 200 ∧ Near l l.length) := by
  unfold cbs
  by_cases h : 200 < l.length
  · exact .inl ⟨by rw [if_pos h], h⟩
  · rw [if_neg h]
    by_cases hn : Near l l.length
    · exact .inr (.inr ⟨by rw [if_pos hn], by omega, hn⟩)
    · exact .inr (.inl ⟨by rw [if_neg hn], by omega, hn⟩)
theorem chk_large {l : List (Int × Int)} (h : 200 < l.length) : chk l = 2 := by simp [chk, h]
theorem chk_ok {l : List (Int × Int)} (h : l.length ≤ 200) (hn : Near l l.length) (hf : Form l l.length) : chk l = 0 := by
  unfold chk; rw [if_neg (by omega), if_pos ⟨hn, hf⟩]
theorem chk_far {l : List (Int × Int)} (h : l.length ≤ 200) (hn : ¬ Near l l.length) : chk l = 5 := by
  unfold chk; rw [if_neg (by omega), if_neg (fun hh => hn hh.1)]
theorem chk_no {l : List (Int × Int)} {k : Nat} (h : l.length ≤ 200) (hk : k < l.length) (hn : ¬ ((l.getD k (0, 0)).1 < (l.getD k (0, 0)).2 ∧ (0 < k → (l.getD (k - 1) (0, 0)).2 < (l.getD k (0, 0)).1))) : chk l = 5 := by
  unfold chk; rw [if_neg (by omega), if_neg (fun hh => hn (hh.2 k hk))]
theorem chk_cases (l : List (Int × Int)) : chk l = 2 ∨ chk l = 5 ∨ (chk l = 0 ∧ l.length ≤ 200 ∧ Near l l.length ∧ Form l l.length) := by
  unfold chk
  by_cases h : 200 < l.length
  · exact .inl (by rw [if_pos h])
  · rw [if_neg h]
    by_cases hn : Near l l.length ∧ Form l l.length
    · exact .inr (.inr ⟨by rw [if_pos hn], by omega, hn⟩)
    · exact .inr (.inl (by rw [if_neg hn]))


/-- all ends of the pairs, in order -/
def flat (l : List (Int × Int)) : List Int := l.flatMap fun p => [p.1, p.2]
theorem flat_nil : flat [] = [] := rfl
theorem flat_cons (p : Int × Int) (l : List (Int × Int)) : flat (p :: l) = p.1 :: p.2 :: flat l := by simp [flat]
theorem flat_append (a b : List (Int × Int)) : flat (a ++ b) = flat a ++ flat b := by simp [flat]
theorem flat_length (l : List (Int × Int)) : (flat l).length = 2 * l.length := by
  induction l with
  | nil => rfl
  | cons p l ih => rw [flat_cons]; simp only [List.length_cons, ih]; omega
theorem take_succ_get {α : Type} (l : List α) (k : Nat) (hk : k < l.length) : l.take (k + 1) = l.take k ++ [l[k]] := by
  rw [List.take_add_one, List.getElem?_eq_getElem hk]; rfl
theorem flat_succ (l : List (Int × Int)) (k : Nat) (hk : k < l.length) : flat (l.take (k + 1)) = flat (l.take k) ++ [l[k].1, l[k].2] := by
  rw [take_succ_get l k hk, flat_append]; rfl
theorem flat_take_length (l : List (Int × Int)) (k : Nat) (hk : k ≤ l.length) : (flat (l.take k)).length = 2 * k := by
  rw [flat_length, List.length_take]; omega

theorem flat_getD (l : List (Int × Int)) (j : Nat) (h : j < l.length) : (flat l)[j * 2]? = some (l.getD j (0, 0)).1 ∧ (flat l)[j * 2 + 1]? = some (l.getD j (0, 0)).2 := by
  induction l generalizing j with
  | nil => simp at h
  | cons p l ih =>
    rw [flat_cons]
    cases j with
    | zero => exact ⟨rfl, rfl⟩
    | succ j =>
      have := ih j (by simpa using h)
      rw [show (j + 1) * 2 = j * 2 + 1 + 1 by omega]
      simpa using this

end Go.Proofs.YtjjhhmlogddnkaiDoor

namespace Go.Proofs.YtjjhhmlogddnkaiDoor

/-- is a number odd? -/
def odd (k : Nat) : Bool := ((k : Int) % 2 == 1)
theorem odd_succ (k : Nat) : odd (k + 1) = !odd k := by
  unfold odd
  rw [Bool.eq_iff_iff]
  simp
  omega
theorem odd_zero : odd 0 = false := rfl
theorem odd_cast_succ (k : Nat) : (((k : Int) + 1) % 2 == 1) = odd (k + 1) := by
  unfold odd
  rw [Bool.eq_iff_iff]
  simp
theorem odd_two (k : Nat) : odd (2 * k) = false := by
  unfold odd
  simp

/-- how many are at or below t? -/
def cnt (l : List Int) (t : Int) : Nat := l.countP fun x => decide (x ≤ t)
theorem cnt_nil (t : Int) : cnt [] t = 0 := rfl
theorem cnt_cons (x : Int) (l : List Int) (t : Int) : cnt (x :: l) t = cnt l t + if x ≤ t then 1 else 0 := by
  unfold cnt
  rw [List.countP_cons]
  simp
theorem cnt_append (a b : List Int) (t : Int) : cnt (a ++ b) t = cnt a t + cnt b t := by
  unfold cnt; rw [List.countP_append]
theorem cnt_none {l : List Int} {t : Int} (h : ∀ x ∈ l, t < x) : cnt l t = 0 := by
  unfold cnt
  rw [List.countP_eq_zero]
  intro x hx
  have := h x hx
  simp; omega
theorem cnt_all {l : List Int} {t : Int} (h : ∀ x ∈ l, x ≤ t) : cnt l t = l.length := by
  unfold cnt
  rw [List.countP_eq_length]
  intro x hx
  simpa using h x hx

/-- what sweeping has made of the first i and j ends -/
structure Swp (want : Bool → Bool → Bool) (A B : List Int) (i j : Nat) (r : List Int) : Prop where
  hi : i ≤ A.length
  hj : j ≤ B.length
  sep : ∀ x, (x ∈ r ∨ x ∈ A.take i ∨ x ∈ B.take j) → ∀ y, (y ∈ A.drop i ∨ y ∈ B.drop j) → x < y
  inc : r.Pairwise (· < ·)
  par : odd r.length = want (odd i) (odd j)
  pts : ∀ t, odd (cnt r t) = want (odd (cnt (A.take i) t)) (odd (cnt (B.take j) t))
  len : r.length ≤ i + j
  near : ∀ x ∈ r, nearB x

theorem swp_start {want : Bool → Bool → Bool} (hw : want false false = false) (A B : List Int) : Swp want A B 0 0 [] :=
  ⟨Nat.zero_le _, Nat.zero_le _, fun x h => by simp at h, List.Pairwise.nil, by simp [odd_zero, hw], fun t => by simp [cnt_nil, odd_zero, hw], Nat.zero_le _, fun x h => by simp at h⟩

/-- one list's part of a step -/
def Stp (A : List Int) (i i' : Nat) (τ : Int) : Prop := (i' = i + 1 ∧ A[i]? = some τ) ∨ (i' = i ∧ ∀ y ∈ A.drop i, τ < y)

theorem stp_le {A : List Int} {i i' : Nat} {τ : Int} (h : Stp A i i' τ) (hi : i ≤ A.length) : i' ≤ A.length := by
  rcases h with ⟨rfl, h⟩ | ⟨rfl, _⟩
  · have := (List.getElem?_eq_some_iff.1 h).1; omega
  · exact hi
theorem stp_mem {A : List Int} {i i' : Nat} {τ x : Int} (h : Stp A i i' τ) (hx : x ∈ A.take i') : x ∈ A.take i ∨ x = τ := by
  rcases h with ⟨rfl, h⟩ | ⟨rfl, _⟩
  · obtain ⟨hl, he⟩ := List.getElem?_eq_some_iff.1 h
    rw [take_succ_get A i hl] at hx
    simp only [List.mem_append, List.mem_singleton] at hx
    rcases hx with hx | hx
    · exact .inl hx
    · exact .inr (hx.trans he)
  · exact .inl hx
theorem stp_rest {A : List Int} {i i' : Nat} {τ y : Int} (h : Stp A i i' τ) (hy : y ∈ A.drop i') : y ∈ A.drop i := by
  rcases h with ⟨rfl, h⟩ | ⟨rfl, _⟩
  · rw [← List.drop_drop] at hy
    exact List.mem_of_mem_drop hy
  · exact hy
theorem stp_lt {A : List Int} {i i' : Nat} {τ y : Int} (sA : A.Pairwise (· < ·)) (h : Stp A i i' τ) (hy : y ∈ A.drop i') : τ < y := by
  rcases h with ⟨rfl, h⟩ | ⟨rfl, hh⟩
  · obtain ⟨hl, he⟩ := List.getElem?_eq_some_iff.1 h
    have sd := sA.sublist (List.drop_sublist i A)
    rw [List.drop_eq_getElem_cons hl, List.pairwise_cons] at sd
    rw [← he]
    exact sd.1 y hy
  · exact hh y hy
theorem stp_cnt_lt {A : List Int} {i i' : Nat} {τ t : Int} (h : Stp A i i' τ) (ht : t < τ) : cnt (A.take i') t = cnt (A.take i) t := by
  rcases h with ⟨rfl, h⟩ | ⟨rfl, _⟩
  · obtain ⟨hl, he⟩ := List.getElem?_eq_some_iff.1 h
    rw [take_succ_get A i hl, cnt_append, he, cnt_none (l := [τ]) (by simpa using ht)]
    rfl
  · rfl

theorem swp_step {want : Bool → Bool → Bool} {A B : List Int} {i j i' j' : Nat} {r r' : List Int} {τ : Int} (S : Swp want A B i j r) (sA : A.Pairwise (· < ·)) (sB : B.Pairwise (· < ·)) (hn : nearB τ)
    (hi : Stp A i i' τ) (hj : Stp B j j' τ) (hτ : τ ∈ A.drop i ∨ τ ∈ B.drop j) (hp : i + j < i' + j')
    (hr : (want (odd i') (odd j') ≠ odd r.length ∧ r' = r ++ [τ]) ∨ (want (odd i') (odd j') = odd r.length ∧ r' = r)) : Swp want A B i' j' r' := by
  have old : ∀ x, (x ∈ r ∨ x ∈ A.take i ∨ x ∈ B.take j) → x < τ := fun x hx => S.sep x hx τ hτ
  have hr' : ∀ x ∈ r', x ∈ r ∨ x = τ := by
    intro x hx
    rcases hr with ⟨_, rfl⟩ | ⟨_, rfl⟩
    · simpa using hx
    · exact .inl hx
  have par : odd r'.length = want (odd i') (odd j') := by
    rcases hr with ⟨h, rfl⟩ | ⟨h, rfl⟩
    · simp only [List.length_append, List.length_singleton, odd_succ]
      revert h
      cases odd r.length <;> cases want (odd i') (odd j') <;> simp
    · exact h.symm
  have hi' := stp_le hi S.hi
  have hj' := stp_le hj S.hj
  refine ⟨hi', hj', ?_, ?_, par, ?_, ?_, ?_⟩
  · intro x hx y hy
    have hxx : (x ∈ r ∨ x ∈ A.take i ∨ x ∈ B.take j) ∨ x = τ := by
      rcases hx with hx | hx | hx
      · rcases hr' x hx with h | h
        · exact .inl (.inl h)
        · exact .inr h
      · rcases stp_mem hi hx with h | h
        · exact .inl (.inr (.inl h))
        · exact .inr h
      · rcases stp_mem hj hx with h | h
        · exact .inl (.inr (.inr h))
        · exact .inr h
    have hτy : τ < y := by
      rcases hy with hy | hy
      · exact stp_lt sA hi hy
      · exact stp_lt sB hj hy
    rcases hxx with hxx | rfl
    · have := old x hxx; omega
    · exact hτy
  · rcases hr with ⟨_, rfl⟩ | ⟨_, rfl⟩
    · rw [List.pairwise_append]
      exact ⟨S.inc, List.pairwise_singleton _ _, fun a ha b hb => by simp at hb; subst hb; exact old a (.inl ha)⟩
    · exact S.inc
  · intro t
    by_cases ht : t < τ
    · rw [stp_cnt_lt hi ht, stp_cnt_lt hj ht, ← S.pts t]
      rcases hr with ⟨_, rfl⟩ | ⟨_, rfl⟩
      · rw [cnt_append, cnt_none (l := [τ]) (by simpa using ht)]; rfl
      · rfl
    · have e1 : cnt (A.take i') t = i' := by
        rw [cnt_all, List.length_take]
        · omega
        · intro x hx
          rcases stp_mem hi hx with h | h
          · have := old x (.inr (.inl h)); omega
          · omega
      have e2 : cnt (B.take j') t = j' := by
        rw [cnt_all, List.length_take]
        · omega
        · intro x hx
          rcases stp_mem hj hx with h | h
          · have := old x (.inr (.inr h)); omega
          · omega
      have e3 : cnt r' t = r'.length := by
        refine cnt_all fun x hx => ?_
        rcases hr' x hx with h | h
        · have := old x (.inl h); omega
        · omega
      rw [e1, e2, e3]
      exact par
  · have := S.len
    rcases hr with ⟨_, rfl⟩ | ⟨_, rfl⟩
    · simp only [List.length_append, List.length_singleton]; omega
    · omega
  · intro x hx
    rcases hr' x hx with h | rfl
    · exact S.near x h
    · exact hn

theorem swp_put {want : Bool → Bool → Bool} {A B : List Int} {i j i' j' : Nat} {r : List Int} {τ : Int} {x y z : Bool} (S : Swp want A B i j r) (sA : A.Pairwise (· < ·)) (sB : B.Pairwise (· < ·)) (hn : nearB τ)
    (hi : Stp A i i' τ) (hj : Stp B j j' τ) (hτ : τ ∈ A.drop i ∨ τ ∈ B.drop j) (hp : i + j < i' + j') (hx : x = odd i') (hy : y = odd j') (hz : z = odd r.length) (h : (!want x y == z) = true) : Swp want A B i' j' (r ++ [τ]) := by
  subst hx hy hz
  exact swp_step S sA sB hn hi hj hτ hp (.inl ⟨by simpa using h, rfl⟩)
theorem swp_skip {want : Bool → Bool → Bool} {A B : List Int} {i j i' j' : Nat} {r : List Int} {τ : Int} {x y z : Bool} (S : Swp want A B i j r) (sA : A.Pairwise (· < ·)) (sB : B.Pairwise (· < ·)) (hn : nearB τ)
    (hi : Stp A i i' τ) (hj : Stp B j j' τ) (hτ : τ ∈ A.drop i ∨ τ ∈ B.drop j) (hp : i + j < i' + j') (hx : x = odd i') (hy : y = odd j') (hz : z = odd r.length) (h : (!want x y == z) = false) : Swp want A B i' j' r := by
  subst hx hy hz
  exact swp_step S sA sB hn hi hj hτ hp (.inr ⟨by simpa using h, rfl⟩)
theorem stp_yes {A : List Int} {i : Nat} {τ : Int} (h : i < A.length) (e : A[i] = τ) : Stp A i (i + 1) τ := .inl ⟨rfl, by rw [List.getElem?_eq_getElem h, e]⟩
theorem stp_past {A : List Int} {i : Nat} {τ : Int} (h : A.length ≤ i) : Stp A i i τ := .inr ⟨rfl, fun y hy => by rw [List.drop_eq_nil_of_le h] at hy; cases hy⟩
theorem stp_no {A : List Int} {i : Nat} {τ : Int} (sA : A.Pairwise (· < ·)) (h : i < A.length) (e : τ < A[i]) : Stp A i i τ := by
  refine .inr ⟨rfl, fun y hy => ?_⟩
  have sd := sA.sublist (List.drop_sublist i A)
  rw [List.drop_eq_getElem_cons h] at hy sd
  rw [List.pairwise_cons] at sd
  simp only [List.mem_cons] at hy
  rcases hy with rfl | hy
  · exact e
  · have := sd.1 y hy; omega
theorem mem_drop_get {A : List Int} {i : Nat} (h : i < A.length) : A[i] ∈ A.drop i := by
  rw [List.drop_eq_getElem_cons h]; exact List.mem_cons_self

/-- does a set have a time? -/
def has (l : List (Int × Int)) (t : Int) : Bool := l.any fun p => decide (p.1 ≤ t) && decide (t < p.2)
theorem has_nil (t : Int) : has [] t = false := rfl
theorem has_cons (p : Int × Int) (l : List (Int × Int)) (t : Int) : has (p :: l) t = ((decide (p.1 ≤ t) && decide (t < p.2)) || has l t) := rfl

theorem has_append (a b : List (Int × Int)) (t : Int) : has (a ++ b) t = (has a t || has b t) := by simp [has]
theorem has_take_no {l : List (Int × Int)} {k : Nat} {t : Int} (hk : k < l.length) (h : has (l.take k) t = false) (hn : ¬ (l[k].1 ≤ t ∧ t < l[k].2)) : has (l.take (k + 1)) t = false := by
  rw [take_succ_get l k hk, has_append, h, has_cons, has_nil]
  simp only [Bool.false_or, Bool.or_false, Bool.and_eq_false_iff, decide_eq_false_iff_not]
  omega
theorem has_take_yes {l : List (Int × Int)} {k : Nat} {t : Int} (hk : k < l.length) (h1 : l[k].1 ≤ t) (h2 : t < l[k].2) : has l t = true := by
  unfold has
  rw [List.any_eq_true]
  exact ⟨l[k], List.getElem_mem hk, by simp [h1, h2]⟩

/-- how many times a list of intervals tells -/
def size (l : List (Int × Int)) : Int := (l.map fun p => p.2 - p.1).sum
theorem size_nil : size [] = 0 := rfl
theorem size_cons (p : Int × Int) (l : List (Int × Int)) : size (p :: l) = (p.2 - p.1) + size l := by simp [size]
theorem size_append (a b : List (Int × Int)) : size (a ++ b) = size a + size b := by
  induction a with
  | nil => simp [size_nil]
  | cons p a ih => rw [List.cons_append, size_cons, size_cons, ih]; omega
theorem size_take_succ {l : List (Int × Int)} {k : Nat} (hk : k < l.length) : size (l.take (k + 1)) = size (l.take k) + (l[k].2 - l[k].1) := by
  rw [take_succ_get l k hk, size_append, size_cons, size_nil]; omega
theorem size_take_bd {l : List (Int × Int)} (hn : Near l l.length) (k : Nat) (hk : k ≤ l.length) : -2000000000 * (k : Int) ≤ size (l.take k) ∧ size (l.take k) ≤ 2000000000 * (k : Int) := by
  induction k with
  | zero => simp [size_nil]
  | succ k ih =>
    have h1 := ih (by omega)
    have h2 := hn k (by omega)
    have hlt : k < l.length := by omega
    rw [List.getD_eq_getElem?_getD, List.getElem?_eq_getElem hlt] at h2
    simp only [Option.getD_some, nearB] at h2
    rw [size_take_succ hlt]
    omega

/-- a set: its ends rise -/
def Canon (l : List (Int × Int)) : Prop := (flat l).Pairwise (· < ·)

theorem canon_has {l : List (Int × Int)} (h : Canon l) (t : Int) : has l t = odd (cnt (flat l) t) := by
  induction l with
  | nil => rfl
  | cons p l ih =>
    unfold Canon at h
    rw [flat_cons, List.pairwise_cons, List.pairwise_cons] at h
    obtain ⟨h1, h2, h3⟩ := h
    have hp := h1 p.2 (by simp)
    have ih' := ih h3
    rw [flat_cons, cnt_cons, cnt_cons, has_cons, ih']
    by_cases a : p.1 ≤ t
    · by_cases b : p.2 ≤ t
      · rw [if_pos a, if_pos b, odd_succ, odd_succ]
        have : decide (t < p.2) = false := by simp; omega
        simp [this]
      · have c0 : cnt (flat l) t = 0 := cnt_none fun x hx => by have := h2 x hx; omega
        rw [if_pos a, if_neg b, c0]
        have : decide (t < p.2) = true := by simp; omega
        simp [a, this, odd]
    · have c0 : cnt (flat l) t = 0 := cnt_none fun x hx => by have := h2 x hx; omega
      rw [if_neg a, if_neg (by omega), c0]
      simp [a, odd_zero]

theorem inc_unique {R S : List Int} (hR : R.Pairwise (· < ·)) (hS : S.Pairwise (· < ·)) (h : ∀ t, odd (cnt R t) = odd (cnt S t)) : R = S := by
  induction R generalizing S with
  | nil =>
    cases S with
    | nil => rfl
    | cons y S =>
      rw [List.pairwise_cons] at hS
      have := h y
      rw [cnt_cons, cnt_none (l := S) hS.1, if_pos (Int.le_refl _)] at this
      simp [cnt_nil, odd] at this
  | cons x R ih =>
    rw [List.pairwise_cons] at hR
    cases S with
    | nil =>
      have := h x
      rw [cnt_cons, cnt_none (l := R) hR.1, if_pos (Int.le_refl _)] at this
      simp [cnt_nil, odd] at this
    | cons y S =>
      rw [List.pairwise_cons] at hS
      have hxy : x = y := by
        by_cases a : x < y
        · have := h x
          rw [cnt_cons, cnt_cons, cnt_none (l := R) hR.1, if_pos (Int.le_refl _), cnt_none (l := S) (fun z hz => by have := hS.1 z hz; omega), if_neg (by omega)] at this
          simp [odd] at this
        · by_cases b : y < x
          · have := h y
            rw [cnt_cons, cnt_cons, cnt_none (l := S) hS.1, if_pos (Int.le_refl _), cnt_none (l := R) (fun z hz => by have := hR.1 z hz; omega), if_neg (by omega)] at this
            simp [odd] at this
          · omega
      subst hxy
      rw [ih hR.2 hS.2]
      intro t
      have := h t
      rw [cnt_cons, cnt_cons] at this
      by_cases a : x ≤ t
      · rw [if_pos a, odd_succ, odd_succ] at this
        simpa using this
      · rw [if_neg a] at this
        exact this

theorem flat_inj {a b : List (Int × Int)} (h : flat a = flat b) : a = b := by
  induction a generalizing b with
  | nil =>
    cases b with
    | nil => rfl
    | cons q b => rw [flat_cons] at h; cases h
  | cons p a ih =>
    cases b with
    | nil => rw [flat_cons] at h; cases h
    | cons q b =>
      rw [flat_cons, flat_cons] at h
      injection h with h1 h2
      injection h2 with h2 h3
      rw [ih h3, Prod.ext h1 h2]

theorem canon_unique {a b : List (Int × Int)} (ha : Canon a) (hb : Canon b) (h : ∀ t, has a t = has b t) : a = b :=
  flat_inj (inc_unique ha hb fun t => by rw [← canon_has ha, ← canon_has hb]; exact h t)

/-- pairs of numbers that follow each other -/
def pairs : List Int → List (Int × Int)
  | x :: y :: l => (x, y) :: pairs l
  | _ => []
theorem flat_pairs (r : List Int) (h : odd r.length = false) : flat (pairs r) = r := by
  match r, h with
  | [], _ => rfl
  | [x], h => simp [odd] at h
  | x :: y :: l, h =>
    have := flat_pairs l (by simp only [List.length_cons, odd_succ] at h; simpa using h)
    rw [pairs, flat_cons, this]
theorem pairs_flat (l : List (Int × Int)) : pairs (flat l) = l := by
  induction l with
  | nil => rfl
  | cons p l ih => rw [flat_cons, pairs, ih]

/-- what both sets come to -/
structure SetIs (want : Bool → Bool → Bool) (a b r : List (Int × Int)) : Prop where
  canon : Canon r
  pts : ∀ t, has r t = want (has a t) (has b t)
  len : r.length ≤ a.length + b.length
  near : ∀ x ∈ flat r, nearB x

theorem setIs_of_swp {want : Bool → Bool → Bool} (hw : want false false = false) {a b : List (Int × Int)} {r : List Int} (ha : Canon a) (hb : Canon b) (S : Swp want (flat a) (flat b) (flat a).length (flat b).length r) :
    odd r.length = false ∧ SetIs want a b (pairs r) := by
  have he : odd r.length = false := by
    have := S.par
    rw [flat_length, flat_length, odd_two, odd_two, hw] at this
    exact this
  have hf := flat_pairs r he
  have hc : Canon (pairs r) := by unfold Canon; rw [hf]; exact S.inc
  refine ⟨he, hc, fun t => ?_, ?_, by rw [hf]; exact S.near⟩
  · have := S.pts t
    rw [List.take_length, List.take_length] at this
    rw [canon_has hc, hf, canon_has ha, canon_has hb]
    exact this
  · have h1 := S.len
    have h2 := flat_length (pairs r)
    rw [hf] at h2
    rw [flat_length, flat_length] at h1
    omega

theorem setIs_unique {want : Bool → Bool → Bool} {a b r s : List (Int × Int)} (h : SetIs want a b r) (hs : Canon s) (hp : ∀ t, has s t = want (has a t) (has b t)) : r = s :=
  canon_unique h.canon hs fun t => by rw [h.pts, hp]

theorem form_tail {p : Int × Int} {l : List (Int × Int)} (h : Form (p :: l) (l.length + 1)) : Form l l.length := by
  intro i hi
  have := h (i + 1) (by omega)
  refine ⟨by simpa using this.1, fun h0 => ?_⟩
  have h2 := this.2 (by omega)
  rw [show i + 1 - 1 = (i - 1) + 1 by omega] at h2
  simpa using h2

theorem canon_of_form {l : List (Int × Int)} (h : Form l l.length) : Canon l := by
  unfold Canon
  induction l with
  | nil => exact List.Pairwise.nil
  | cons p l ih =>
    have ih' := ih (form_tail h)
    have h0 := (h 0 (by simp)).1
    simp at h0
    have h1 : ∀ x ∈ flat l, p.2 < x := by
      cases l with
      | nil => simp [flat]
      | cons q l =>
        have hq := (h 1 (by simp)).2 (by omega)
        simp at hq
        rw [flat_cons] at ih' ⊢
        intro x hx
        rw [List.pairwise_cons] at ih'
        simp only [List.mem_cons] at hx
        rcases hx with rfl | hx
        · exact hq
        · have := ih'.1 x (by simpa using hx); omega
    rw [flat_cons, List.pairwise_cons, List.pairwise_cons]
    refine ⟨fun x hx => ?_, h1, ih'⟩
    simp only [List.mem_cons] at hx
    rcases hx with rfl | hx
    · exact h0
    · have := h1 x hx; omega

theorem form_of_canon {l : List (Int × Int)} (h : Canon l) : Form l l.length := by
  unfold Canon at h
  rw [List.pairwise_iff_getElem] at h
  intro i hi
  have hl := flat_length l
  obtain ⟨f0, f1⟩ := flat_getD l i hi
  obtain ⟨g0, f0⟩ := List.getElem?_eq_some_iff.1 f0
  obtain ⟨g1, f1⟩ := List.getElem?_eq_some_iff.1 f1
  refine ⟨?_, fun h0 => ?_⟩
  · rw [← f0, ← f1]; exact h _ _ g0 g1 (by omega)
  · obtain ⟨_, e1⟩ := flat_getD l (i - 1) (by omega)
    obtain ⟨k1, e1⟩ := List.getElem?_eq_some_iff.1 e1
    rw [← f0, ← e1]
    exact h _ _ k1 g0 (by omega)

theorem near_flat {l : List (Int × Int)} (h : Near l l.length) : ∀ x ∈ flat l, nearB x := by
  induction l with
  | nil => simp [flat]
  | cons p l ih =>
    have ih' := ih (fun i hi => by simpa using h (i + 1) (by simpa using hi))
    have h0 := h 0 (by simp)
    simp at h0
    rw [flat_cons]
    intro x hx
    simp only [List.mem_cons] at hx
    rcases hx with rfl | rfl | hx
    · exact h0.1
    · exact h0.2
    · exact ih' x hx

theorem near_of_flat {l : List (Int × Int)} (h : ∀ x ∈ flat l, nearB x) : Near l l.length := by
  intro i hi
  obtain ⟨f0, f1⟩ := flat_getD l i hi
  exact ⟨h _ (List.mem_of_getElem? f0), h _ (List.mem_of_getElem? f1)⟩

theorem chk_of_canon {l : List (Int × Int)} (hc : Canon l) (hn : ∀ x ∈ flat l, nearB x) (hl : l.length ≤ 200) : chk l = 0 :=
  chk_ok hl (near_of_flat hn) (form_of_canon hc)

end Go.Proofs.YtjjhhmlogddnkaiDoor

namespace Go.Proofs.YtjjhhmlogddnkaiDoor
open Go.RowKit

theorem ret_slice {ao : Option Addr} {n m n' m' : Nat} (h : n = n') (h' : m = m') : Ending.returned (.slice ao n m) = .returned (.slice ao n' m') := by rw [h, h']

/-- the pairs of l lie at ao, two cells each -/
def IvAt (w : World) (ao : Option Addr) (l : List (Int × Int)) : Prop :=
  l = [] ∨ ∃ b off, ao = some ⟨b, off, none⟩ ∧ b < w.heap.size ∧ ∀ j, j < l.length → w.cell? ⟨b, off + j * 2, none⟩ = some (.int .i64 (l.getD j (0, 0)).1) ∧ w.cell? ⟨b, off + j * 2 + 1, none⟩ = some (.int .i64 (l.getD j (0, 0)).2)

/-- the numbers of l lie at ao -/
def ZsAt (w : World) (ao : Option Addr) (l : List Int) : Prop :=
  l = [] ∨ ∃ b off, ao = some ⟨b, off, none⟩ ∧ b < w.heap.size ∧ ∀ j, j < l.length → w.cell? ⟨b, off + j, none⟩ = some (.int .i64 (l.getD j 0))

theorem IvAt.below {w w' : World} {ao : Option Addr} {l : List (Int × Int)} (h : IvAt w ao l) (hb : Below w.heap.size w w') : IvAt w' ao l := by
  rcases h with h | ⟨b, off, rfl, hlt, hc⟩
  · exact .inl h
  · refine .inr ⟨b, off, rfl, Nat.lt_of_lt_of_le hlt hb.size, fun j hj => ?_⟩
    rw [hb.cell (p := ⟨b, off + j * 2, none⟩) hlt, hb.cell (p := ⟨b, off + j * 2 + 1, none⟩) hlt]
    exact hc j hj

theorem ZsAt.below {w w' : World} {ao : Option Addr} {l : List Int} (h : ZsAt w ao l) (hb : Below w.heap.size w w') : ZsAt w' ao l := by
  rcases h with h | ⟨b, off, rfl, hlt, hc⟩
  · exact .inl h
  · refine .inr ⟨b, off, rfl, Nat.lt_of_lt_of_le hlt hb.size, fun j hj => ?_⟩
    rw [hb.cell (p := ⟨b, off + j, none⟩) hlt]
    exact hc j hj


theorem Tryd.infoInt : (Tryd.prog.info? 3).map (fun i => (i.zero, i.size, i.bytes)) = some (some (.int .i64 0), 1, 8) := by kernel_rfl
theorem Tryd.infoIvl : (Tryd.prog.info? 51).map (fun i => (i.zero, i.size, i.bytes)) = some (some (.agg #[.int .i64 0, .int .i64 0]), 2, 16) := by kernel_rfl

/-- what a row of numbers that the call owns holds -/
theorem zsAt_of_owns {w : World} {base e : Nat} {v : Value} {n : Nat} {l : List Int} (h : w.ownsRow base e 1 v n (l.map (Value.int .i64))) : ∃ ao cap, v = .slice ao l.length cap ∧ ZsAt w ao l := by
  obtain ⟨h1, h2⟩ := h
  simp only [List.length_map, Nat.mul_one] at h1
  subst h1
  rcases h2 with ⟨rfl, h0⟩ | ⟨g, cap, cur, rfl, hb, hh, h3, h4, h5, h6⟩
  · exact ⟨none, 0, by rw [h0], .inl (List.eq_nil_of_length_eq_zero h0)⟩
  · refine ⟨_, cap, rfl, .inr ⟨g, 0, rfl, (Array.getElem?_eq_some_iff.1 hh).1, fun j hj => ?_⟩⟩
    have := World.ownsRow.cellAt (w := w) (base := base) (e := e) (size := 1) (xs := l.map (Value.int .i64)) ⟨by simp, .inr ⟨g, cap, cur, rfl, hb, hh, h3, h4, h5, h6⟩⟩ j (by omega)
    rw [Nat.zero_add, this, List.getElem?_map, List.getD_eq_getElem?_getD, List.getElem?_eq_getElem hj]
    rfl

/-- the cells of pairs -/
def encs (l : List (Int × Int)) : List Value := (flat l).map (Value.int .i64)

/-- what a row of pairs that the call owns holds -/
theorem ivAt_of_owns {w : World} {base e : Nat} {v : Value} {n : Nat} {l : List (Int × Int)} (h : w.ownsRow base e 2 v n (encs l)) : ∃ ao cap, v = .slice ao l.length cap ∧ IvAt w ao l := by
  obtain ⟨h1, h2⟩ := h
  simp only [encs, List.length_map, flat_length] at h1
  have hn : n = l.length := by omega
  subst hn
  rcases h2 with ⟨rfl, h0⟩ | ⟨g, cap, cur, rfl, hb, hh, h3, h4, h5, h6⟩
  · exact ⟨none, 0, by rw [h0], .inl (List.eq_nil_of_length_eq_zero h0)⟩
  · have hown : w.ownsRow base e 2 (.slice (some ⟨g, 0, none⟩) l.length cap) l.length (encs l) := ⟨by simp [encs, flat_length]; omega, .inr ⟨g, cap, cur, rfl, hb, hh, h3, h4, h5, h6⟩⟩
    refine ⟨_, cap, rfl, .inr ⟨g, 0, rfl, (Array.getElem?_eq_some_iff.1 hh).1, fun j hj => ?_⟩⟩
    obtain ⟨f0, f1⟩ := flat_getD l j hj
    rw [Nat.zero_add, hown.cellAt (j * 2) (by omega), hown.cellAt (j * 2 + 1) (by omega)]
    simp only [encs, List.getElem?_map, f0, f1]
    exact ⟨rfl, rfl⟩

/-- an owned row stays while nothing below the heap's size turns -/
theorem ownsRow_below {w w' : World} {base e size : Nat} {v : Value} {n : Nat} {xs : List Value} (h : w.ownsRow base e size v n xs) (hb : Below w.heap.size w w') : w'.ownsRow base e size v n xs :=
  h.kept (row := none) ⟨hb.os, hb.tape, hb.output, hb.size, fun k hk _ => hb.block k hk⟩ (by cases v.ownBlock <;> simp)

/-- two cells in a new block -/
theorem cells_two_new (w : World) (B : Nat) (t : TypeId) (x y : Value) (hB : B = w.heap.size) : ∀ j u, [x, y][j]? = some u → (w.alloc (.cells #[x, y] t)).cell? ((⟨B, 0, none⟩ : Addr).add j) = some u := by
  subst hB
  intro j u hj
  match j, hj with
  | 0, hj => simp at hj; subst hj; simp [Addr.add]
  | 1, hj => simp at hj; subst hj; simp [Addr.add]

/-- what a call that tells a set and an error hands back: the error n with nothing, or a set -/
def Told (w w' : World) (e : Ending) (n : Int) (r : List (Int × Int)) : Prop :=
  ∃ ao cap, e = .returned (.tuple #[.slice ao r.length cap, .int .i64 n]) ∧ IvAt w' ao r ∧ Below w.heap.size w w'

/-- the same, in memory of the call's own -/
def Told2 (w w' : World) (e : Ending) (n : Int) (r : List (Int × Int)) : Prop :=
  ∃ v, e = .returned (.tuple #[v, .int .i64 n]) ∧ w'.ownsRow w.heap.size 51 2 v r.length (encs r) ∧ Below w.heap.size w w'
theorem told_of_own {w w' : World} {e : Ending} {n : Int} {r : List (Int × Int)} (h : Told2 w w' e n r) : Told w w' e n r := by
  obtain ⟨v, he, ho, hb⟩ := h
  obtain ⟨ao, cap, rfl, hz⟩ := ivAt_of_owns ho
  exact ⟨ao, cap, he, hz, hb⟩
theorem nil2 (w W : World) : W.ownsRow w.heap.size 51 2 (.slice none 0 0) ([] : List (Int × Int)).length (encs []) := World.ownsRow_nil _ _ _ _
theorem owns_base2 {w : World} {base base' e size : Nat} {v : Value} {n : Nat} {xs : List Value} (h : w.ownsRow base e size v n xs) (hb : base' ≤ base) : w.ownsRow base' e size v n xs :=
  ⟨h.1, h.2.imp id (fun ⟨g, c, cur, h1, h2, h3⟩ => ⟨g, c, cur, h1, Nat.le_trans hb h2, h3⟩)⟩
theorem hide2 {p : Prop} (h : p) : Hid p := h

end Go.Proofs.YtjjhhmlogddnkaiDoor

namespace Go.Proofs.YtjjhhmlogddnkaiDoor

/-- a leg: From, To, Time, Cost -/
abbrev Lg := Int × Int × Int × Int
/-- an edge: A, B, its legs -/
abbrev Ed := Int × Int × List Lg
/-- a graph -/
structure Gr where
  hor : Int
  lives : List (Int × Int)
  edges : List Ed

/-- is n from lo to hi? -/
def inR (n lo hi : Int) : Bool := decide (lo ≤ n) && decide (n ≤ hi)
/-- are the times from a to b some, and times of the graph? -/
def spanB (a b h : Int) : Bool := decide (0 ≤ a) && (decide (a < b) && decide (b ≤ h))
/-- is the leg one? -/
def fitB (l : Lg) (h : Int) : Bool := spanB l.1 l.2.1 h && (inR l.2.2.1 1 50 && inR l.2.2.2 0 1000)

/-- legs, behind a leg that ends at p -/
def lgChk (h p : Int) : List Lg → Int
  | [] => 0
  | l :: ls => if fitB l h = false then 1 else if l.1 < p then 5 else lgChk h l.2.1 ls
/-- an edge -/
def edChk (h n : Int) (e : Ed) : Int := if (inR e.1 0 (n - 1) && inR e.2.1 0 (n - 1)) = false then 4 else if 6 < e.2.2.length then 2 else lgChk h 0 e.2.2
def edsChk (h n : Int) : List Ed → Int
  | [] => 0
  | e :: es => if edChk h n e = 0 then edsChk h n es else edChk h n e
def lvChk (h : Int) : List (Int × Int) → Int
  | [] => 0
  | p :: ps => if spanB p.1 p.2 h = true then lvChk h ps else 1
/-- what Check answers -/
def gChk (g : Gr) : Int :=
  if inR g.hor 1 100 = false then 1 else if 12 < g.lives.length ∨ 30 < g.edges.length then 2 else if lvChk g.hor g.lives ≠ 0 then 1 else edsChk g.hor g.lives.length g.edges

theorem inR_iff (n lo hi : Int) : inR n lo hi = true ↔ lo ≤ n ∧ n ≤ hi := by unfold inR; simp
theorem inR_no {n lo hi : Int} (h : ¬ (lo ≤ n ∧ n ≤ hi)) : inR n lo hi = false := by rw [← Bool.not_eq_true, inR_iff]; exact h
theorem spanB_iff (a b h : Int) : spanB a b h = true ↔ 0 ≤ a ∧ a < b ∧ b ≤ h := by unfold spanB; simp
theorem spanB_no {a b h : Int} (k : ¬ (0 ≤ a ∧ a < b ∧ b ≤ h)) : spanB a b h = false := by rw [← Bool.not_eq_true, spanB_iff]; exact k
theorem fitB_iff (l : Lg) (h : Int) : fitB l h = true ↔ (0 ≤ l.1 ∧ l.1 < l.2.1 ∧ l.2.1 ≤ h) ∧ (1 ≤ l.2.2.1 ∧ l.2.2.1 ≤ 50) ∧ (0 ≤ l.2.2.2 ∧ l.2.2.2 ≤ 1000) := by
  unfold fitB; rw [Bool.and_eq_true, Bool.and_eq_true, spanB_iff, inR_iff, inR_iff]

theorem lgChk_cases (h : Int) : ∀ (l : List Lg) (p : Int), lgChk h p l = 0 ∨ lgChk h p l = 1 ∨ lgChk h p l = 5
  | [], p => .inl rfl
  | l :: ls, p => by
    unfold lgChk
    split
    · exact .inr (.inl rfl)
    · split
      · exact .inr (.inr rfl)
      · exact lgChk_cases h ls _
theorem edChk_cases (h n : Int) (e : Ed) : edChk h n e = 0 ∨ edChk h n e = 1 ∨ edChk h n e = 2 ∨ edChk h n e = 4 ∨ edChk h n e = 5 := by
  unfold edChk
  split
  · simp
  · split
    · simp
    · rcases lgChk_cases h e.2.2 0 with k | k | k <;> simp [k]
theorem edsChk_cases (h n : Int) : ∀ l : List Ed, edsChk h n l = 0 ∨ edsChk h n l = 1 ∨ edsChk h n l = 2 ∨ edsChk h n l = 4 ∨ edsChk h n l = 5
  | [] => .inl rfl
  | e :: es => by
    unfold edsChk
    split
    · exact edsChk_cases h n es
    · exact edChk_cases h n e
theorem lvChk_cases (h : Int) : ∀ l : List (Int × Int), lvChk h l = 0 ∨ lvChk h l = 1
  | [] => .inl rfl
  | p :: ps => by
    unfold lvChk
    split
    · exact lvChk_cases h ps
    · exact .inr rfl
theorem gChk_cases (g : Gr) : gChk g = 0 ∨ gChk g = 1 ∨ gChk g = 2 ∨ gChk g = 4 ∨ gChk g = 5 := by
  unfold gChk
  split
  · simp
  · split
    · simp
    · split
      · simp
      · exact edsChk_cases _ _ _

theorem drop_get {α : Type} (l : List α) (k : Nat) (h : k < l.length) : l.drop k = l[k] :: l.drop (k + 1) := (List.drop_eq_getElem_cons h)

/-- the To of the leg ahead of leg k; 0 ahead of the first -/
def prevTo (l : List Lg) : Nat → Int
  | 0 => 0
  | k + 1 => (l.getD k (0, 0, 0, 0)).2.1

theorem lg_bad {h : Int} {l : List Lg} {k : Nat} (hk : k < l.length) (hI : lgChk h 0 l = lgChk h (prevTo l k) (l.drop k)) (hf : fitB l[k] h = false) : lgChk h 0 l = 1 := by
  rw [hI, drop_get l k hk, lgChk, if_pos hf]
theorem lg_form {h : Int} {l : List Lg} {k : Nat} (hk : k < l.length) (hI : lgChk h 0 l = lgChk h (prevTo l k) (l.drop k)) (hf : fitB l[k] h = true) (hp : l[k].1 < prevTo l k) : lgChk h 0 l = 5 := by
  rw [hI, drop_get l k hk, lgChk, if_neg (by simp [hf]), if_pos hp]
theorem lg_next {h : Int} {l : List Lg} {k : Nat} (hk : k < l.length) (hI : lgChk h 0 l = lgChk h (prevTo l k) (l.drop k)) (hf : fitB l[k] h = true) (hp : ¬ l[k].1 < prevTo l k) : lgChk h 0 l = lgChk h (prevTo l (k + 1)) (l.drop (k + 1)) := by
  rw [hI, drop_get l k hk, lgChk, if_neg (by simp [hf]), if_neg hp]
  simp [prevTo, List.getD_eq_getElem?_getD, List.getElem?_eq_getElem hk]
theorem lg_end {h : Int} {l : List Lg} (hI : lgChk h 0 l = lgChk h (prevTo l l.length) (l.drop l.length)) : lgChk h 0 l = 0 := by
  rw [hI, List.drop_length]; rfl
theorem prevTo_succ {l : List Lg} {k : Nat} (hk : k < l.length) : prevTo l (k + 1) = l[k].2.1 := by
  simp [prevTo, List.getD_eq_getElem?_getD, List.getElem?_eq_getElem hk]

theorem eds_stop {h n : Int} {l : List Ed} {k : Nat} (hk : k < l.length) (hI : edsChk h n l = edsChk h n (l.drop k)) (he : edChk h n l[k] ≠ 0) : edsChk h n l = edChk h n l[k] := by
  rw [hI, drop_get l k hk, edsChk, if_neg he]
theorem eds_next {h n : Int} {l : List Ed} {k : Nat} (hk : k < l.length) (hI : edsChk h n l = edsChk h n (l.drop k)) (he : edChk h n l[k] = 0) : edsChk h n l = edsChk h n (l.drop (k + 1)) := by
  rw [hI, drop_get l k hk, edsChk, if_pos he]
theorem eds_end {h n : Int} {l : List Ed} (hI : edsChk h n l = edsChk h n (l.drop l.length)) : edsChk h n l = 0 := by
  rw [hI, List.drop_length]; rfl
theorem lv_stop {h : Int} {l : List (Int × Int)} {k : Nat} (hk : k < l.length) (hI : lvChk h l = lvChk h (l.drop k)) (he : spanB l[k].1 l[k].2 h = false) : lvChk h l = 1 := by
  rw [hI, drop_get l k hk, lvChk, if_neg (by simp [he])]
theorem lv_next {h : Int} {l : List (Int × Int)} {k : Nat} (hk : k < l.length) (hI : lvChk h l = lvChk h (l.drop k)) (he : spanB l[k].1 l[k].2 h = true) : lvChk h l = lvChk h (l.drop (k + 1)) := by
  rw [hI, drop_get l k hk, lvChk, if_pos he]
theorem lv_end {h : Int} {l : List (Int × Int)} (hI : lvChk h l = lvChk h (l.drop l.length)) : lvChk h l = 0 := by
  rw [hI, List.drop_length]; rfl

theorem gChk_hor {g : Gr} (h : inR g.hor 1 100 = false) : gChk g = 1 := by unfold gChk; rw [if_pos h]
theorem gChk_large {g : Gr} (h : inR g.hor 1 100 = true) (k : 12 < g.lives.length ∨ 30 < g.edges.length) : gChk g = 2 := by unfold gChk; rw [if_neg (by simp [h]), if_pos k]
theorem gChk_life {g : Gr} (h : inR g.hor 1 100 = true) (k : ¬ (12 < g.lives.length ∨ 30 < g.edges.length)) (l : lvChk g.hor g.lives = 1) : gChk g = 1 := by unfold gChk; rw [if_neg (by simp [h]), if_neg k, if_pos (by omega)]
theorem gChk_rest {g : Gr} (h : inR g.hor 1 100 = true) (k : ¬ (12 < g.lives.length ∨ 30 < g.edges.length)) (l : lvChk g.hor g.lives = 0) : gChk g = edsChk g.hor g.lives.length g.edges := by unfold gChk; rw [if_neg (by simp [h]), if_neg k, if_neg (by omega)]

/-- what a right graph is -/
structure Right (g : Gr) : Prop where
  hor : 1 ≤ g.hor ∧ g.hor ≤ 100
  lvs : g.lives.length ≤ 12
  eds : g.edges.length ≤ 30
  life : ∀ p ∈ g.lives, 0 ≤ p.1 ∧ p.1 < p.2 ∧ p.2 ≤ g.hor
  ends : ∀ e ∈ g.edges, (0 ≤ e.1 ∧ e.1 < g.lives.length) ∧ (0 ≤ e.2.1 ∧ e.2.1 < g.lives.length) ∧ e.2.2.length ≤ 6
  legs : ∀ e ∈ g.edges, ∀ l ∈ e.2.2, fitB l g.hor = true

theorem lv_all {h : Int} : ∀ {l : List (Int × Int)}, lvChk h l = 0 → ∀ p ∈ l, spanB p.1 p.2 h = true
  | [], _, p, hp => by simp at hp
  | q :: l, hl, p, hp => by
    unfold lvChk at hl
    by_cases hq : spanB q.1 q.2 h = true
    · rw [if_pos hq] at hl
      rcases List.mem_cons.1 hp with rfl | hp
      · exact hq
      · exact lv_all hl p hp
    · rw [if_neg hq] at hl; omega
theorem lg_all {h : Int} : ∀ {l : List Lg} {p : Int}, lgChk h p l = 0 → ∀ x ∈ l, fitB x h = true
  | [], _, _, x, hx => by simp at hx
  | q :: l, p, hl, x, hx => by
    unfold lgChk at hl
    by_cases hq : fitB q h = false
    · rw [if_pos hq] at hl; omega
    · rw [if_neg hq] at hl
      by_cases hp : q.1 < p
      · rw [if_pos hp] at hl; omega
      · rw [if_neg hp] at hl
        rcases List.mem_cons.1 hx with rfl | hx
        · simpa using hq
        · exact lg_all hl x hx
theorem eds_all {h n : Int} : ∀ {l : List Ed}, edsChk h n l = 0 → ∀ e ∈ l, edChk h n e = 0
  | [], _, e, he => by simp at he
  | q :: l, hl, e, he => by
    unfold edsChk at hl
    by_cases hq : edChk h n q = 0
    · rw [if_pos hq] at hl
      rcases List.mem_cons.1 he with rfl | he
      · exact hq
      · exact eds_all hl e he
    · rw [if_neg hq] at hl; exact absurd hl hq
theorem gChk_right {g : Gr} (h : gChk g = 0) : Right g := by
  unfold gChk at h
  by_cases h1 : inR g.hor 1 100 = false
  · rw [if_pos h1] at h; omega
  rw [if_neg h1] at h
  by_cases h2 : 12 < g.lives.length ∨ 30 < g.edges.length
  · rw [if_pos h2] at h; omega
  rw [if_neg h2] at h
  by_cases h3 : lvChk g.hor g.lives ≠ 0
  · rw [if_pos h3] at h; omega
  rw [if_neg h3] at h
  have e0 := eds_all h
  have hed : ∀ e ∈ g.edges, (0 ≤ e.1 ∧ e.1 < g.lives.length) ∧ (0 ≤ e.2.1 ∧ e.2.1 < g.lives.length) ∧ e.2.2.length ≤ 6 ∧ lgChk g.hor 0 e.2.2 = 0 := by
    intro e he
    have := e0 e he
    unfold edChk at this
    by_cases k1 : (inR e.1 0 (g.lives.length - 1) && inR e.2.1 0 (g.lives.length - 1)) = false
    · rw [if_pos k1] at this; omega
    rw [if_neg k1] at this
    by_cases k2 : 6 < e.2.2.length
    · rw [if_pos k2] at this; omega
    rw [if_neg k2] at this
    rw [Bool.not_eq_false, Bool.and_eq_true, inR_iff, inR_iff] at k1
    exact ⟨⟨k1.1.1, by omega⟩, ⟨k1.2.1, by omega⟩, by omega, this⟩
  refine ⟨(inR_iff _ _ _).1 (by simpa using h1), by omega, by omega, fun p hp => (spanB_iff _ _ _).1 (lv_all (by omega) p hp), fun e he => ?_, fun e he l hl => lg_all (hed e he).2.2.2 l hl⟩
  have := hed e he
  exact ⟨this.1, this.2.1, this.2.2.1⟩

end Go.Proofs.YtjjhhmlogddnkaiDoor

namespace Go.Proofs.YtjjhhmlogddnkaiDoor
open Go.RowKit

theorem ret_bool {a b : Bool} (h : a = b) : Ending.returned (.bool a) = .returned (.bool b) := by rw [h]
theorem ret_int {k : IntKind} {a b : Int} (h : a = b) : Ending.returned (.int k a) = .returned (.int k b) := by rw [h]

/-- is a number near? -/
def nrB (x : Int) : Bool := decide (-1000000000 ≤ x) && decide (x ≤ 1000000000)
theorem nrB_iff (x : Int) : nrB x = true ↔ nearB x := by unfold nrB nearB; simp only [Bool.and_eq_true, decide_eq_true_eq]
theorem nrB_all_no {l : List Int} {k : Nat} (hk : k < l.length) (h : ¬ nearB l[k]) : l.all nrB = false := by
  rw [← Bool.not_eq_true, List.all_eq_true]
  intro hh
  exact h ((nrB_iff _).1 (hh l[k] (List.getElem_mem hk)))
theorem nrB_take_succ {l : List Int} {k : Nat} (hk : k < l.length) (h0 : (l.take k).all nrB = true) (h : nearB l[k]) : (l.take (k + 1)).all nrB = true := by
  rw [take_succ_get l k hk, List.all_append, h0]
  simp [(nrB_iff _).2 h]

end Go.Proofs.YtjjhhmlogddnkaiDoor

namespace Go.Proofs.YtjjhhmlogddnkaiDoor
open Go.RowKit

end Go.Proofs.YtjjhhmlogddnkaiDoor

namespace Go.Proofs.YtjjhhmlogddnkaiDoor
open Go.RowKit

theorem ptg {a b c : World} (h1 : Below a.heap.size a b) (h2 : Below b.heap.size b c) : Below a.heap.size a c := h1.trans (h2.mono h1.size)
theorem gal (w : World) (o : Obj) : Below w.heap.size w (w.alloc o) := (Below.refl _ _).alloc (Nat.le_refl _) o
theorem hideg {p : Prop} (h : p) : Hid p := h

/-- legs lie at ao, four cells each -/
def LgAt (w : World) (ao : Option Addr) (m : List Lg) : Prop :=
  m = [] ∨ ∃ b off, ao = some ⟨b, off, none⟩ ∧ b < w.heap.size ∧ ∀ j, j < m.length → w.cell? ⟨b, off + j * 4, none⟩ = some (.int .i64 (m.getD j (0, 0, 0, 0)).1) ∧ w.cell? ⟨b, off + j * 4 + 1, none⟩ = some (.int .i64 (m.getD j (0, 0, 0, 0)).2.1) ∧ w.cell? ⟨b, off + j * 4 + 2, none⟩ = some (.int .i64 (m.getD j (0, 0, 0, 0)).2.2.1) ∧ w.cell? ⟨b, off + j * 4 + 3, none⟩ = some (.int .i64 (m.getD j (0, 0, 0, 0)).2.2.2)

theorem LgAt.below {w w' : World} {ao : Option Addr} {m : List Lg} (h : LgAt w ao m) (hb : Below w.heap.size w w') : LgAt w' ao m := by
  rcases h with h | ⟨b, off, rfl, hlt, hc⟩
  · exact .inl h
  · refine .inr ⟨b, off, rfl, Nat.lt_of_lt_of_le hlt hb.size, fun j hj => ?_⟩
    rw [hb.cell (p := ⟨b, off + j * 4, none⟩) hlt, hb.cell (p := ⟨b, off + j * 4 + 1, none⟩) hlt, hb.cell (p := ⟨b, off + j * 4 + 2, none⟩) hlt, hb.cell (p := ⟨b, off + j * 4 + 3, none⟩) hlt]
    exact hc j hj
theorem LgAt.get {w : World} {b off : Nat} {m : List Lg} {k : Nat} (hk : k < m.length) (hc : ∀ j, j < m.length → w.cell? ⟨b, off + j * 4, none⟩ = some (.int .i64 (m.getD j (0, 0, 0, 0)).1) ∧ w.cell? ⟨b, off + j * 4 + 1, none⟩ = some (.int .i64 (m.getD j (0, 0, 0, 0)).2.1) ∧ w.cell? ⟨b, off + j * 4 + 2, none⟩ = some (.int .i64 (m.getD j (0, 0, 0, 0)).2.2.1) ∧ w.cell? ⟨b, off + j * 4 + 3, none⟩ = some (.int .i64 (m.getD j (0, 0, 0, 0)).2.2.2)) :
    w.cell? ⟨b, off + k * 4, none⟩ = some (.int .i64 m[k].1) ∧ w.cell? ⟨b, off + k * 4 + 1, none⟩ = some (.int .i64 m[k].2.1) ∧ w.cell? ⟨b, off + k * 4 + 2, none⟩ = some (.int .i64 m[k].2.2.1) ∧ w.cell? ⟨b, off + k * 4 + 3, none⟩ = some (.int .i64 m[k].2.2.2) := by
  have := hc k hk
  rwa [List.getD_eq_getElem?_getD, List.getElem?_eq_getElem hk] at this
theorem IvAt.get {w : World} {b off : Nat} {m : List (Int × Int)} {k : Nat} (hk : k < m.length) (hc : ∀ j, j < m.length → w.cell? ⟨b, off + j * 2, none⟩ = some (.int .i64 (m.getD j (0, 0)).1) ∧ w.cell? ⟨b, off + j * 2 + 1, none⟩ = some (.int .i64 (m.getD j (0, 0)).2)) :
    w.cell? ⟨b, off + k * 2, none⟩ = some (.int .i64 m[k].1) ∧ w.cell? ⟨b, off + k * 2 + 1, none⟩ = some (.int .i64 m[k].2) := by
  have := hc k hk
  rwa [List.getD_eq_getElem?_getD, List.getElem?_eq_getElem hk] at this

/-- one edge lies at an address -/
def EdOne (w : World) (b off : Nat) (e : Ed) : Prop :=
  w.cell? ⟨b, off, none⟩ = some (.int .i64 e.1) ∧ w.cell? ⟨b, off + 1, none⟩ = some (.int .i64 e.2.1) ∧ ∃ la lc, w.cell? ⟨b, off + 2, none⟩ = some (.slice la e.2.2.length lc) ∧ LgAt w la e.2.2 ∧ e.2.2.length ≤ lc ∧ lc ≤ 9223372036854775807
/-- edges lie at ao, three cells each -/
def EdAt (w : World) (ao : Option Addr) (m : List Ed) : Prop :=
  m = [] ∨ ∃ b off, ao = some ⟨b, off, none⟩ ∧ b < w.heap.size ∧ ∀ j (h : j < m.length), EdOne w b (off + j * 3) m[j]

theorem EdOne.below {w w' : World} {b off : Nat} {e : Ed} (hlt : b < w.heap.size) (h : EdOne w b off e) (hb : Below w.heap.size w w') : EdOne w' b off e := by
  obtain ⟨h0, h1, la, lc, h2, hl, hn, hm⟩ := h
  exact ⟨by rw [hb.cell (p := ⟨b, off, none⟩) hlt, h0], by rw [hb.cell (p := ⟨b, off + 1, none⟩) hlt, h1], la, lc, by rw [hb.cell (p := ⟨b, off + 2, none⟩) hlt, h2], hl.below hb, hn, hm⟩
theorem EdAt.below {w w' : World} {ao : Option Addr} {m : List Ed} (h : EdAt w ao m) (hb : Below w.heap.size w w') : EdAt w' ao m := by
  rcases h with h | ⟨b, off, rfl, hlt, hc⟩
  · exact .inl h
  · exact .inr ⟨b, off, rfl, Nat.lt_of_lt_of_le hlt hb.size, fun j hj => (hc j hj).below hlt hb⟩

/-- a graph's lists lie at la, ea -/
structure GAt (w : World) (la ea : Option Addr) (g : Gr) : Prop where
  lv : IvAt w la g.lives
  ed : EdAt w ea g.edges
  nl : g.lives.length ≤ 9223372036854775807
  ne : g.edges.length ≤ 9223372036854775807
theorem GAt.below {w w' : World} {la ea : Option Addr} {g : Gr} (h : GAt w la ea g) (hb : Below w.heap.size w w') : GAt w' la ea g := ⟨h.lv.below hb, h.ed.below hb, h.nl, h.ne⟩

theorem Tryd.infoLeg : (Tryd.prog.info? 56).map (fun i => (i.zero, i.size, i.bytes)) = some (some (.agg #[.int .i64 0, .int .i64 0, .int .i64 0, .int .i64 0]), 4, 32) := by kernel_rfl
theorem Tryd.infoEdge : (Tryd.prog.info? 54).map (fun i => (i.zero, i.size, i.bytes)) = some (some (.agg #[.int .i64 0, .int .i64 0, .slice none 0 0]), 3, 40) := by kernel_rfl

end Go.Proofs.YtjjhhmlogddnkaiDoor

namespace Go.Proofs.YtjjhhmlogddnkaiDoor
open Go.RowKit

theorem Tryd.sizeBuilder : (Tryd.prog.info? 48).map (·.size) = some 2 := by kernel_rfl
theorem Tryd.liesBuilder : liesAt Tryd.prog Tryd.prog.depth 48 (2 / Tryd.prog.cellsOf 48) 0 48 1 = true := by kernel_rfl
theorem Tryd.infoByte : (Tryd.prog.info? 5).map (fun i => (i.zero, i.size, i.bytes)) = some (some (.int .u8 0), 1, 1) := by kernel_rfl

/-- the builder at block b holds the bytes l; what lies below B is not its own -/
def BdAt (B b : Nat) (l : List UInt8) (w : World) : Prop := Lib.IsBuilderF 48 5 B b (Lib.byteCells l) w
/-- what a writer leaves as it was -/
def Wrote (B b : Nat) (w w' : World) : Prop := Below B w w' ∧ Lib.OthersKept 5 (some b) w w'
theorem Wrote.refl (B b : Nat) (w : World) : Wrote B b w w := ⟨Below.refl _ _, Lib.OthersKept.refl _ _ _⟩
theorem Wrote.trans {B b : Nat} {x y z : World} (h : Wrote B b x y) (k : Wrote B b y z) : Wrote B b x z := ⟨h.1.trans k.1, h.2.trans k.2⟩
theorem Wrote.size {B b : Nat} {x y : World} (h : Wrote B b x y) : x.heap.size ≤ y.heap.size := h.1.size
theorem Wrote.of_below {B b : Nat} {x y : World} (h : Below x.heap.size x y) (hB : B ≤ x.heap.size) : Wrote B b x y :=
  ⟨h.mono hB, fun k o hk _ _ => by
    have hlt : k < x.heap.size := by
      rcases Nat.lt_or_ge k x.heap.size with q | q
      · exact q
      · rw [Array.getElem?_eq_none q] at hk; simp at hk
    rw [h.block k hlt]; exact hk⟩
/-- a block of the call's own that is no row of bytes stays -/
theorem Wrote.cells {B b : Nat} {x y : World} (h : Wrote B b x y) {k : Nat} {cs : Array Value} {t : TypeId} {fz : Nat × Nat} (hk : x.heap[k]? = some (.cells cs t fz)) (hkb : k ≠ b) (ht : t ≠ 5) : y.heap[k]? = some (.cells cs t fz) :=
  h.2 k _ hk (by simpa using hkb) (fun c fz' e => by simp only [Obj.cells.injEq] at e; exact ht e.2.1)
theorem BdAt.below {B b : Nat} {l : List UInt8} {w w' : World} (h : BdAt B b l w) (hb : Below w.heap.size w w') : BdAt B b l w' := by
  have one : ∀ p, Lib.BuilderAtF 48 5 B b p (Lib.byteCells l) w → Lib.BuilderAtF 48 5 B b p (Lib.byteCells l) w' := by
    intro p hp
    have hlt := hp.lt
    obtain ⟨hB, v, hbk, hown, hne⟩ := hp
    exact ⟨hB, v, by rw [hb.block b hlt]; exact hbk, hown.kept (row := none) ⟨hb.os, hb.tape, hb.output, hb.size, fun k hk _ => hb.block k hk⟩ (by cases v.ownBlock <;> simp), hne⟩
  exact h.imp (one _) (one _)
theorem BdAt.lt {B b : Nat} {l : List UInt8} {w : World} (h : BdAt B b l w) : b < w.heap.size := h.elim (·.lt) (·.lt)
theorem BdAt.le {B b : Nat} {l : List UInt8} {w : World} (h : BdAt B b l w) : B ≤ b := h.elim (·.1) (·.1)
theorem bdAt_fresh (w : World) : BdAt w.heap.size w.heap.size [] (w.alloc (.cells #[.pointer none, .slice none 0 0] 48)) := by
  refine .inl ⟨Nat.le_refl _, .slice none 0 0, heap_alloc_new w _, ?_, by simp [Value.ownBlock]⟩
  exact World.ownsRowF_of (World.ownsRow_nil _ _ _ _)

set_option maxHeartbeats 1000000 in
set_option maxRecDepth 100000 in
theorem copyCheck_used (b : Nat) (w : World) (h0 : w.cell? ⟨b, 0, none⟩ = some (.pointer (some ⟨b, 0, none⟩))) :
    Calls Tryd.prog 38 #[.pointer (some ⟨b, 0, none⟩)] w fun e w' => e = .returned (.tuple #[]) ∧ w' = w := by
  obtain ⟨j, hj, _⟩ := Option.map_eq_some_iff.1 Tryd.sizeBuilder
  go_enter Tryd.func38, Tryd.ntmps38
  go_wp2
  rw [Lib.run_neq_ptr_same w _ Tryd.underlying45 hj]
  go_wp2
  go_end0
  exact ⟨rfl, rfl⟩

set_option maxHeartbeats 1000000 in
set_option maxRecDepth 100000 in
theorem copyCheck_fresh (b : Nat) (w : World) (h0 : w.cell? ⟨b, 0, none⟩ = some (.pointer none)) (hsh : w.shape? b = some (48, 2)) (hfz : w.frozen? ⟨b, 0, none⟩ = false) :
    Calls Tryd.prog 38 #[.pointer (some ⟨b, 0, none⟩)] w fun e w' => e = .returned (.tuple #[]) ∧ w' = w.setCell ⟨b, 0, none⟩ (.pointer (some ⟨b, 0, none⟩)) := by
  obtain ⟨j, hj, hjs⟩ := Option.map_eq_some_iff.1 Tryd.sizeBuilder
  go_enter Tryd.func38, Tryd.ntmps38
  go_wp2
  rw [Lib.run_to_unsafe w ⟨b, 0, none⟩ Tryd.underlying45 Tryd.underlying109 hj (by rw [hjs]; decide) hsh (Nat.zero_lt_succ 1)]
  simp only [Result.andThen]
  rw [Oper.upon_value]
  go_wp2
  rw [run_callFunc_extern Tryd.func46 (by kernel_rfl) (by kernel_rfl) (by kernel_rfl) (e := Extern.AbiNoEscape.same) (by kernel_rfl)]
  rw [Lib.run_noEscape]
  simp only [Result.andThen]
  rw [Oper.upon_value]
  go_wp2
  rw [Lib.run_from_unsafe w ⟨b, 0, none⟩ Tryd.underlying109 Tryd.underlying45 hj hsh Tryd.liesBuilder]
  simp only [Result.andThen]
  rw [Oper.upon_value]
  go_wp2
  go_end0
  exact ⟨rfl, rfl⟩

theorem copyCheck_any (B b : Nat) (l : List UInt8) (w : World) (h : BdAt B b l w) :
    Calls Tryd.prog 38 #[.pointer (some ⟨b, 0, none⟩)] w fun e w' => e = .returned (.tuple #[]) ∧ (Lib.BuilderAtF 48 5 B b (.pointer (some ⟨b, 0, none⟩)) (Lib.byteCells l) w' ∧ Wrote B b w w') := by
  rcases h with h | h
  · refine (copyCheck_fresh b w h.cell0 h.shape h.frozen0).mono ?_
    rintro e w' ⟨rfl, rfl⟩
    exact ⟨rfl, h.used _, (Below.refl B w).setCell (p := ⟨b, 0, none⟩) h.1 _, (Lib.OthersKept.refl _ _ w).setCell ⟨b, 0, none⟩ rfl _⟩
  · refine (copyCheck_used b w h.cell0).mono ?_
    rintro e w' ⟨rfl, rfl⟩
    exact ⟨rfl, h, Below.refl B _, Lib.OthersKept.refl _ _ _⟩

set_option maxHeartbeats 2000000 in
set_option maxRecDepth 100000 in
theorem WriteByte_any (B b : Nat) (l : List UInt8) (c : UInt8) (w : World) (h : BdAt B b l w) (hlen : l.length + 1 ≤ 140737488355328) (hBw : B ≤ w.heap.size) :
    Calls Tryd.prog 27 #[.pointer (some ⟨b, 0, none⟩), .int .u8 (c.toNat : Int)] w fun e w' => e = .returned .nilIface ∧ BdAt B b (l ++ [c]) w' ∧ Wrote B b w w' := by
  obtain ⟨i0, hi, hz0, hz1, hz2⟩ := info_parts Tryd.infoByte
  go_enter Tryd.func27, Tryd.ntmps27
  go_wp2_with (go_at_call 38; refine (copyCheck_any B b l _ h).mono ?_)
  rintro e w1 ⟨rfl, h1, hw1⟩
  obtain ⟨hB, v, hbk, hown, hne⟩ := h1
  obtain ⟨hb1, hk1⟩ := hw1
  have c0 : w1.cell? ⟨b, 0, none⟩ = some (.pointer (some ⟨b, 0, none⟩)) := by rw [Lib.cell_of_heap hbk]; rfl
  have c1 : w1.cell? ⟨b, 1, none⟩ = some v := by rw [Lib.cell_of_heap hbk]; rfl
  have hcl : (Lib.byteCells l).length = l.length := Lib.byteCells_length l
  go_wp2_with (at_builtin; refine wpList_append_ownF _ rfl _ _ 46 rfl B 5 i0 (.int .u8 0) 1 1 Tryd.underlying46 hi hz0 hz1 hz2 rfl (by decide) _ _ _ rfl (hown.alloc _) ⟨w1.heap.size, 0, none⟩ 1 1 [.int .u8 (c.toNat : Int)] rfl rfl ?c1 ?c2 ?c3 ?c4 ?c5 ?_)
  case c1 =>
    intro j u hj
    match j, hj with
    | 0, hj => simp at hj; subst hj; simp [Addr.add]
  case c2 => intro u hu; simp at hu; subst hu; rfl
  case c3 => unfold maxLen; omega
  case c4 => omega
  case c5 => have := hb1.size; simp; omega
  intro v' w2 hown' hgrow _
  have hlt : b < w1.heap.size := by
    rcases Nat.lt_or_ge b w1.heap.size with h' | h'
    · exact h'
    · simp [Array.getElem?_eq_none h'] at hbk
  have hb2 : w2.heap[b]? = some (.cells #[.pointer (some ⟨b, 0, none⟩), v] 48 (0, 0)) := by
    rw [hgrow.block b (by simp; omega) (fun e => hne e.symm), Lib.alloc_old w1 _ b hlt]
    exact hbk
  have d0 : w2.cell? ⟨b, 0, none⟩ = some (.pointer (some ⟨b, 0, none⟩)) := by rw [Lib.cell_of_heap hb2]; rfl
  have d1 : w2.cell? ⟨b, 1, none⟩ = some v := by rw [Lib.cell_of_heap hb2]; rfl
  have f1 : w2.frozen? ⟨b, 1, none⟩ = false := Lib.frozen_of_heap hb2 1
  obtain ⟨g, cap, rfl⟩ : ∃ g cap, v' = .slice (some ⟨g, 0, none⟩) (l.length + 1) cap := by
    rcases hown'.2 with ⟨_, h0⟩ | ⟨g, cap, cur, fz, hv, _⟩
    · omega
    · exact ⟨g, cap, hv⟩
  have HR : Hid (BdAt B b (l ++ [c]) (w2.setCell ⟨b, 1, none⟩ (.slice (some ⟨g, 0, none⟩) (l.length + 1) cap)) ∧ Wrote B b w (w2.setCell ⟨b, 1, none⟩ (.slice (some ⟨g, 0, none⟩) (l.length + 1) cap))) := by
    refine ⟨.inr ?_, ?_, ((hk1.alloc _).grown hgrow (Lib.ownsRowF_kind (hown.alloc _))).setCell ⟨b, 1, none⟩ rfl _⟩
    · have e2 : Lib.byteCells (l ++ [c]) = Lib.byteCells l ++ [.int .u8 (c.toNat : Int)] := by simp [Lib.byteCells]
      rw [e2]
      exact Lib.BuilderAtF.put (T := 48) (e := 5) hB hb2 (bs' := Lib.byteCells l ++ [.int .u8 (c.toNat : Int)]) (by simpa [hcl] using hown') (by decide)
    · exact ((hb1.alloc (by have := hb1.size; omega) _).grown hgrow (by have := hb1.size; simp; omega) (fun k hk => (hown.lt k hk).1)).setCell (p := ⟨b, 1, none⟩) hB _
  clear hown' hgrow hown hcl
  go_wp2
  go_ret
  exact ⟨rfl, HR.out⟩

set_option maxHeartbeats 2000000 in
set_option maxRecDepth 100000 in
theorem WriteString_any (B b : Nat) (l : List UInt8) (s : ByteArray) (w : World) (h : BdAt B b l w) (hlen : l.length + s.size ≤ 140737488355328) (hBw : B ≤ w.heap.size) :
    Calls Tryd.prog 26 #[.pointer (some ⟨b, 0, none⟩), .string s] w fun e w' => e = .returned (.tuple #[.int .i64 s.size, .nilIface]) ∧ BdAt B b (l ++ s.data.toList) w' ∧ Wrote B b w w' := by
  obtain ⟨i0, hi, hz0, hz1, hz2⟩ := info_parts Tryd.infoByte
  go_enter Tryd.func26, Tryd.ntmps26
  go_wp2_with (go_at_call 38; refine (copyCheck_any B b l _ h).mono ?_)
  rintro e w1 ⟨rfl, h1, hw1⟩
  obtain ⟨hB, v, hbk, hown, hne⟩ := h1
  obtain ⟨hb1, hk1⟩ := hw1
  have c0 : w1.cell? ⟨b, 0, none⟩ = some (.pointer (some ⟨b, 0, none⟩)) := by rw [Lib.cell_of_heap hbk]; rfl
  have c1 : w1.cell? ⟨b, 1, none⟩ = some v := by rw [Lib.cell_of_heap hbk]; rfl
  have hcl : (Lib.byteCells l).length = l.length := Lib.byteCells_length l
  go_wp2_with (at_builtin; refine Lib.wpList_append_own_stringF _ rfl _ _ 46 9 rfl B 5 i0 Tryd.underlying46 Tryd.underlying9 hi hz0 hz1 hz2 _ _ _ rfl hown s rfl ?c3 ?c4 ?c5 ?_)
  case c3 => unfold maxLen; omega
  case c4 => omega
  case c5 => have := hb1.size; omega
  intro v' w2 hown' hgrow _
  have hlt : b < w1.heap.size := by
    rcases Nat.lt_or_ge b w1.heap.size with h' | h'
    · exact h'
    · simp [Array.getElem?_eq_none h'] at hbk
  have hb2 : w2.heap[b]? = some (.cells #[.pointer (some ⟨b, 0, none⟩), v] 48 (0, 0)) := by
    rw [hgrow.block b hlt (fun e => hne e.symm)]
    exact hbk
  have d0 : w2.cell? ⟨b, 0, none⟩ = some (.pointer (some ⟨b, 0, none⟩)) := by rw [Lib.cell_of_heap hb2]; rfl
  have d1 : w2.cell? ⟨b, 1, none⟩ = some v := by rw [Lib.cell_of_heap hb2]; rfl
  have f1 : w2.frozen? ⟨b, 1, none⟩ = false := Lib.frozen_of_heap hb2 1
  obtain ⟨ao, n', cap, rfl⟩ : ∃ ao n' cap, v' = .slice ao n' cap := by
    rcases hown'.2 with ⟨hv, _⟩ | ⟨g, cap, cur, fz, hv, _⟩
    · exact ⟨_, _, _, hv⟩
    · exact ⟨_, _, _, hv⟩
  have HR : Hid (BdAt B b (l ++ s.data.toList) (w2.setCell ⟨b, 1, none⟩ (.slice ao n' cap)) ∧ Wrote B b w (w2.setCell ⟨b, 1, none⟩ (.slice ao n' cap))) := by
    refine ⟨.inr ?_, ?_, (hk1.grown hgrow (Lib.ownsRowF_kind hown)).setCell ⟨b, 1, none⟩ rfl _⟩
    · have e2 : Lib.byteCells (l ++ s.data.toList) = Lib.byteCells l ++ Lib.strCells s := by rw [Lib.byteCells_append]; rfl
      rw [e2]
      exact Lib.BuilderAtF.put (T := 48) (e := 5) hB hb2 (bs' := Lib.byteCells l ++ Lib.strCells s) (by simpa [Lib.strCells_length, hcl] using hown') (by decide)
    · exact (hb1.grown hgrow (by have := hb1.size; omega) (fun k hk => (hown.lt k hk).1)).setCell (p := ⟨b, 1, none⟩) hB _
  clear hown' hgrow hown hcl
  go_wp2
  go_ret2
  exact ⟨rfl, HR.out⟩

theorem BString_any (B b : Nat) (l : List UInt8) (w : World) (h : BdAt B b l w) (hBw : B ≤ w.heap.size) :
    Calls Tryd.prog 15 #[.pointer (some ⟨b, 0, none⟩)] w fun e w' => e = .returned (.string ⟨l.toArray⟩) ∧ Below B w w' :=
  (Tryd.Builder_String_any_k B b l w h hBw).mono fun _ _ ⟨h1, _, h2, _⟩ => ⟨h1, h2⟩

end Go.Proofs.YtjjhhmlogddnkaiDoor

namespace Go.Proofs.YtjjhhmlogddnkaiDoor
open Go.Lib

/-- the pieces of a text between bytes c -/
def sp (c : UInt8) : List UInt8 → List (List UInt8)
  | [] => [[]]
  | x :: l => if x = c then [] :: sp c l else ((x :: (sp c l).headD []) :: (sp c l).tail)
/-- put together again -/
def jn (c : UInt8) : List (List UInt8) → List UInt8
  | [] => []
  | [l] => l
  | l :: m :: r => l ++ c :: jn c (m :: r)

theorem sp_ne (c : UInt8) (l : List UInt8) : sp c l ≠ [] := by
  cases l with
  | nil => simp [sp]
  | cons x l => unfold sp; split <;> simp
theorem sp_cons (c : UInt8) (l : List UInt8) : ∃ h t, sp c l = h :: t := by
  cases h : sp c l with
  | nil => exact absurd h (sp_ne c l)
  | cons a b => exact ⟨a, b, rfl⟩
theorem sp_hit (c : UInt8) (l : List UInt8) : sp c (c :: l) = [] :: sp c l := by rw [sp, if_pos rfl]
theorem sp_miss {c x : UInt8} (h : x ≠ c) {l : List UInt8} {a : List UInt8} {t : List (List UInt8)} (e : sp c l = a :: t) : sp c (x :: l) = (x :: a) :: t := by rw [sp, if_neg h, e]; rfl
theorem sp_none {c : UInt8} : ∀ {l : List UInt8}, c ∉ l → sp c l = [l]
  | [], _ => rfl
  | x :: l, h => by
    have hx : x ≠ c := fun e => h (by simp [e])
    rw [sp_miss hx (sp_none (fun k => h (List.mem_cons_of_mem _ k)))]
theorem sp_ahead {c : UInt8} : ∀ {a : List UInt8} (l : List UInt8), c ∉ a → sp c (a ++ c :: l) = a :: sp c l
  | [], l, _ => sp_hit c l
  | x :: a, l, h => by
    have hx : x ≠ c := fun e => h (by simp [e])
    rw [List.cons_append, sp_miss hx (sp_ahead l (fun k => h (List.mem_cons_of_mem _ k)))]
theorem jn_cons (c : UInt8) (a : List UInt8) {t : List (List UInt8)} (h : t ≠ []) : jn c (a :: t) = a ++ c :: jn c t := by
  cases t with
  | nil => exact absurd rfl h
  | cons b t => rfl
theorem jn_head (c x : UInt8) (a : List UInt8) (t : List (List UInt8)) : jn c ((x :: a) :: t) = x :: jn c (a :: t) := by
  cases t with
  | nil => rfl
  | cons b t => rfl
theorem jn_sp (c : UInt8) : ∀ l : List UInt8, jn c (sp c l) = l
  | [] => rfl
  | x :: l => by
    by_cases h : x = c
    · subst h; rw [sp_hit, jn_cons _ _ (sp_ne _ _), jn_sp x l]; rfl
    · obtain ⟨a, t, e⟩ := sp_cons c l
      rw [sp_miss h e, jn_head, ← e, jn_sp c l]
theorem sp_snoc_hit (c : UInt8) : ∀ l : List UInt8, sp c (l ++ [c]) = sp c l ++ [[]]
  | [] => by rw [List.nil_append, sp_hit]; rfl
  | x :: l => by
    by_cases h : x = c
    · subst h; rw [List.cons_append, sp_hit, sp_hit, sp_snoc_hit x l]; rfl
    · obtain ⟨a, t, e⟩ := sp_cons c l
      have := sp_snoc_hit c l
      rw [e] at this
      rw [List.cons_append, sp_miss h this, sp_miss h e]; rfl
theorem sp_snoc_miss {c x : UInt8} (hx : x ≠ c) : ∀ (l : List UInt8) (i : List (List UInt8)) (a : List UInt8), sp c l = i ++ [a] → sp c (l ++ [x]) = i ++ [a ++ [x]]
  | [], i, a, h => by
    have : sp c [] = [[]] := rfl
    rw [this] at h
    cases i with
    | nil => simp at h; subst h; rw [List.nil_append, sp_miss hx (show sp c [] = [] :: [] from rfl)]; rfl
    | cons b i => cases i <;> simp at h
  | y :: l, i, a, h => by
    by_cases hy : y = c
    · subst hy
      rw [sp_hit] at h
      rw [List.cons_append, sp_hit]
      cases i with
      | nil => simp at h; exact absurd h.2 (sp_ne _ _)
      | cons b i =>
        simp at h
        rw [sp_snoc_miss hx l i a h.2, h.1]; rfl
    · obtain ⟨b, t, e⟩ := sp_cons c l
      rw [sp_miss hy e] at h
      cases i with
      | nil =>
        simp at h
        obtain ⟨rfl, rfl⟩ := h
        rw [List.cons_append, sp_miss hy (sp_snoc_miss hx l [] b (by rw [e]; rfl))]; rfl
      | cons d i =>
        simp at h
        obtain ⟨rfl, rfl⟩ := h
        rw [List.cons_append, sp_miss hy (sp_snoc_miss hx l (b :: i) a (by rw [e]; rfl))]; rfl
theorem sp_length_le (c : UInt8) : ∀ l : List UInt8, (sp c l).length ≤ l.length + 1
  | [] => by simp [sp]
  | x :: l => by
    have := sp_length_le c l
    obtain ⟨a, t, e⟩ := sp_cons c l
    rw [e] at this
    by_cases h : x = c
    · subst h; rw [sp_hit, e]; simpa using this
    · rw [sp_miss h e]; simp at this ⊢; omega
theorem sp_mem_le (c : UInt8) : ∀ (l : List UInt8), ∀ a ∈ sp c l, a.length ≤ l.length
  | [], a, h => by simp [sp] at h; simp [h]
  | x :: l, a, h => by
    have ih := sp_mem_le c l
    obtain ⟨b, t, e⟩ := sp_cons c l
    by_cases hx : x = c
    · subst hx
      rw [sp_hit] at h
      rcases List.mem_cons.1 h with rfl | h
      · simp
      · have := ih a h; simp; omega
    · rw [sp_miss hx e] at h
      rw [e] at ih
      rcases List.mem_cons.1 h with rfl | h
      · have := ih b (by simp); simp; omega
      · have := ih a (List.mem_cons_of_mem _ h); simp; omega

/-- is the byte a digit? -/
def dgB (b : UInt8) : Bool := decide (48 ≤ b.toNat) && decide (b.toNat ≤ 57)
/-- the number that digits tell -/
def nv (n : Nat) (l : List UInt8) : Nat := l.foldl (fun n b => 10 * n + (b.toNat - 48)) n
/-- is the word a number? -/
def nmB (l : List UInt8) : Bool := decide (1 ≤ l.length) && (decide (l.length ≤ 4) && (!(decide (l.head? = some 48) && decide (1 < l.length)) && l.all dgB))
def nm (l : List UInt8) : Option Int := if nmB l = true then some (nv 0 l : Nat) else none

theorem nmB_iff (l : List UInt8) : nmB l = true ↔ 1 ≤ l.length ∧ l.length ≤ 4 ∧ ¬ (l.head? = some 48 ∧ 1 < l.length) ∧ ∀ b ∈ l, dgB b = true := by
  unfold nmB
  rw [Bool.and_eq_true, Bool.and_eq_true, Bool.and_eq_true, List.all_eq_true, decide_eq_true_eq, decide_eq_true_eq, Bool.not_eq_true', ← Bool.not_eq_true, Bool.and_eq_true, decide_eq_true_eq, decide_eq_true_eq]
theorem dgB_iff (b : UInt8) : dgB b = true ↔ 48 ≤ b.toNat ∧ b.toNat ≤ 57 := by unfold dgB; simp
theorem dgB_of (d : Nat) (h : d < 10) : dgB (UInt8.ofNat (48 + d)) = true ∧ (UInt8.ofNat (48 + d)).toNat = 48 + d := by
  have : (UInt8.ofNat (48 + d)).toNat = 48 + d := by simp; omega
  exact ⟨(dgB_iff _).2 (by omega), this⟩
theorem ofNat_dg (b : UInt8) (h : dgB b = true) : UInt8.ofNat (48 + (b.toNat - 48)) = b := by
  have := (dgB_iff b).1 h
  apply UInt8.toNat_inj.1
  simp; omega
theorem nv_snoc (n : Nat) (l : List UInt8) (b : UInt8) : nv n (l ++ [b]) = 10 * nv n l + (b.toNat - 48) := by unfold nv; rw [List.foldl_append]; rfl

theorem snocInd {α : Type} {p : List α → Prop} (h0 : p []) (h1 : ∀ l x, p l → p (l ++ [x])) : ∀ (n : Nat) (l : List α), l.length = n → p l
  | 0, l, h => by rw [List.eq_nil_of_length_eq_zero h]; exact h0
  | n + 1, l, h => by
    rcases List.eq_nil_or_concat l with rfl | ⟨a, x, rfl⟩
    · exact h0
    · rw [List.concat_eq_append] at h ⊢
      exact h1 a x (snocInd h0 h1 n a (by simpa using h))

theorem nv_lt (l : List UInt8) (h : ∀ b ∈ l, dgB b = true) : nv 0 l < 10 ^ l.length := by
  revert h
  refine snocInd (p := fun l => (∀ b ∈ l, dgB b = true) → nv 0 l < 10 ^ l.length) (fun _ => by simp [nv]) (fun l b ih h => ?_) l.length l rfl
  have h1 := ih fun x hx => h x (by simp [hx])
  have h2 := (dgB_iff b).1 (h b (by simp))
  rw [nv_snoc, List.length_append, List.length_singleton, Nat.pow_succ]
  omega
theorem nv_bd (l : List UInt8) (h : ∀ b ∈ l, dgB b = true) (h4 : l.length ≤ 4) : nv 0 l ≤ 9999 := by
  have := nv_lt l h
  have : 10 ^ l.length ≤ 10 ^ 4 := Nat.pow_le_pow_right (by decide) h4
  omega
/-- digits without a nought ahead are the numeral of their number -/
theorem dec_nv (l : List UInt8) (h : ∀ b ∈ l, dgB b = true) (hne : l ≠ []) (h0 : ¬ (l.head? = some 48 ∧ 1 < l.length)) : decDigits (nv 0 l) = l := by
  revert h hne h0
  refine (snocInd (p := fun l => (∀ b ∈ l, dgB b = true) → l ≠ [] → ¬ (l.head? = some 48 ∧ 1 < l.length) → decDigits (nv 0 l) = l ∧ (l.head? ≠ some 48 → 1 ≤ nv 0 l)) (fun _ h => absurd rfl h) (fun l b ih h _ h0 => ?_) l.length l rfl · · · |>.1)
  have hb := h b (by simp)
  have h2 := (dgB_iff b).1 hb
  rw [nv_snoc]
  by_cases hl : l = []
  · subst hl
    have e : 10 * nv 0 [] + (b.toNat - 48) = b.toNat - 48 := by simp [nv]
    rw [e]
    refine ⟨by rw [decDigits_one (by omega), ofNat_dg b hb]; rfl, fun hh => ?_⟩
    have : b ≠ 48 := fun k => hh (by simp [k])
    have : b.toNat ≠ 48 := fun k => this (UInt8.toNat_inj.1 k)
    omega
  · have hlen : 1 ≤ l.length := by cases l with
      | nil => exact absurd rfl hl
      | cons _ _ => simp
    have hhd : (l ++ [b]).head? = l.head? := by cases l with
      | nil => exact absurd rfl hl
      | cons _ _ => rfl
    have hn : l.head? ≠ some 48 := fun k => h0 ⟨by rw [hhd]; exact k, by simp; omega⟩
    obtain ⟨i1, i2⟩ := ih (fun x hx => h x (by simp [hx])) hl (fun k => hn k.1)
    have i2 := i2 hn
    refine ⟨?_, fun _ => by omega⟩
    rw [decDigits, dif_neg (by omega), show (10 * nv 0 l + (b.toNat - 48)) / 10 = nv 0 l by omega, show (10 * nv 0 l + (b.toNat - 48)) % 10 = b.toNat - 48 by omega, i1, ofNat_dg b hb]

theorem dec_all (u : Nat) : ∀ b ∈ decDigits u, dgB b = true := by
  induction u using Nat.strongRecOn with
  | _ u ih =>
    intro b hb
    rw [decDigits] at hb
    by_cases h : u < 10
    · rw [dif_pos h] at hb
      rw [List.mem_singleton.1 hb]; exact (dgB_of u h).1
    · rw [dif_neg h] at hb
      rcases List.mem_append.1 hb with hb | hb
      · exact ih (u / 10) (by omega) b hb
      · rw [List.mem_singleton.1 hb]; exact (dgB_of (u % 10) (by omega)).1
theorem nv_dec (u : Nat) : nv 0 (decDigits u) = u := by
  induction u using Nat.strongRecOn with
  | _ u ih =>
    rw [decDigits]
    by_cases h : u < 10
    · rw [dif_pos h]
      have := (dgB_of u h).2
      simp only [nv, List.foldl_cons, List.foldl_nil, this]; omega
    · rw [dif_neg h, nv_snoc, ih (u / 10) (by omega), (dgB_of (u % 10) (by omega)).2]; omega
theorem dec_head (u : Nat) : 1 ≤ (decDigits u).length ∧ (1 ≤ u → (decDigits u).head? ≠ some 48) := by
  induction u using Nat.strongRecOn with
  | _ u ih =>
    rw [decDigits]
    by_cases h : u < 10
    · rw [dif_pos h]
      refine ⟨by simp, fun h1 k => ?_⟩
      have := (dgB_of u h).2
      simp only [List.head?_cons, Option.some.injEq] at k
      rw [k] at this
      have e : (48 : UInt8).toNat = 48 := rfl
      omega
    · rw [dif_neg h]
      obtain ⟨i1, i2⟩ := ih (u / 10) (by omega)
      refine ⟨by simp, fun _ k => ?_⟩
      have i2 := i2 (by omega)
      cases hd : decDigits (u / 10) with
      | nil => rw [hd] at i1; simp at i1
      | cons x t => rw [hd] at k i2; exact i2 k

theorem itoa_nat {n : Int} (h : 0 ≤ n) : itoa n = decDigits n.toNat := by unfold itoa; rw [if_neg (by omega)]
theorem nm_itoa {n : Int} (h : 0 ≤ n) (h9 : n ≤ 9999) : nm (itoa n) = some n := by
  rw [itoa_nat h]
  unfold nm
  have hl : (decDigits n.toNat).length ≤ 4 := by
    rw [decDigits_length]
    rcases Nat.lt_or_ge n.toNat 10 with k | k
    · rw [nDigits_small k]; omega
    rcases Nat.lt_or_ge n.toNat 100 with k1 | k1
    · rw [nDigits_unique 1 _ (by omega) (by omega)]; omega
    rcases Nat.lt_or_ge n.toNat 1000 with k2 | k2
    · rw [nDigits_unique 2 _ (by omega) (by omega)]; omega
    · rw [nDigits_unique 3 _ (by omega) (by omega)]; omega
  have h1 := dec_head n.toNat
  rw [if_pos, nv_dec]
  · congr 1; omega
  · rw [nmB_iff]
    refine ⟨h1.1, hl, fun ⟨k, k'⟩ => ?_, dec_all _⟩
    rcases Nat.eq_zero_or_pos n.toNat with e | e
    · rw [e, decDigits_one (by omega)] at k'; simp at k'
    · exact h1.2 e k
theorem nm_some {l : List UInt8} {n : Int} (h : nm l = some n) : itoa n = l ∧ 0 ≤ n ∧ n ≤ 9999 := by
  unfold nm at h
  by_cases hb : nmB l = true
  · rw [if_pos hb] at h
    obtain ⟨h1, h2, h3, h4⟩ := (nmB_iff l).1 hb
    simp only [Option.some.injEq] at h
    subst h
    have := nv_bd l h4 h2
    refine ⟨?_, by omega, by omega⟩
    rw [itoa_nonneg, dec_nv l h4 (fun e => by rw [e] at h1; simp at h1) h3]
  · rw [if_neg hb] at h; simp at h
theorem itoa_sign {n : Int} (h : 0 ≤ n) : ∀ b ∈ itoa n, dgB b = true := by rw [itoa_nat h]; exact dec_all _
theorem itoa_not {n : Int} (h : 0 ≤ n) {c : UInt8} (hc : dgB c = false) : c ∉ itoa n := fun k => by have := itoa_sign h c k; rw [hc] at this; simp at this

/-- numbers of words -/
def nms : List (List UInt8) → Option (List Int)
  | [] => some []
  | w :: ws => match nm w with
    | none => none
    | some n => match nms ws with
      | none => none
      | some l => some (n :: l)

def wTime : List UInt8 := [116, 105, 109, 101]
def wVertex : List UInt8 := [118, 101, 114, 116, 101, 120]
def wEdge : List UInt8 := [101, 100, 103, 101]
def wLeg : List UInt8 := [108, 101, 103]

/-- the graph with a leg more at its last edge -/
def putLeg (es : List Ed) (l : Lg) : List Ed := match es.getLast? with
  | none => es
  | some e => es.dropLast ++ [(e.1, e.2.1, e.2.2 ++ [l])]

/-- what a line's kind and numbers make of a graph -/
def put (g : Gr) (k : List UInt8) (ns : List Int) : Option Gr :=
  match ns with
  | [a] => if k = wTime then some { g with hor := a } else none
  | [a, b] => if k = wVertex ∧ g.edges = [] then some { g with lives := g.lives ++ [(a, b)] } else if k = wEdge then some { g with edges := g.edges ++ [(a, b, [])] } else none
  | [a, b, c, d] => if k = wLeg ∧ g.edges ≠ [] then some { g with edges := putLeg g.edges (a, b, c, d) } else none
  | _ => none
/-- is the word time? -/
def isT (k : List UInt8) : Bool := decide (k = wTime)
/-- what a line's words make of a graph -/
def lineW (g : Gr) (first : Bool) (k : List UInt8) (t : List (List UInt8)) : Option Gr :=
  match nms t with
  | none => none
  | some ns => if first = isT k then put g k ns else none
/-- what a line makes of a graph -/
def lineOf (g : Gr) (l : List UInt8) (first : Bool) : Option Gr := lineW g first ((sp 32 l).headD []) (sp 32 l).tail
theorem lineOf_eq {g : Gr} {l : List UInt8} {first : Bool} {k : List UInt8} {t : List (List UInt8)} (e : sp 32 l = k :: t) : lineOf g l first = lineW g first k t := by unfold lineOf; rw [e]; rfl
theorem lineW_none {g : Gr} {first : Bool} {k : List UInt8} {t : List (List UInt8)} (h : nms t = none) : lineW g first k t = none := by unfold lineW; rw [h]
theorem lineW_first {g : Gr} {first : Bool} {k : List UInt8} {t : List (List UInt8)} (h : first ≠ isT k) : lineW g first k t = none := by
  unfold lineW
  cases nms t with
  | none => rfl
  | some ns => simp only [if_neg h]
theorem lineW_put {g : Gr} {first : Bool} {k : List UInt8} {t : List (List UInt8)} {ns : List Int} (h : nms t = some ns) (h1 : first = isT k) : lineW g first k t = put g k ns := by unfold lineW; rw [h]; simp only [if_pos h1]
theorem lineW_some {g g' : Gr} {first : Bool} {k : List UInt8} {t : List (List UInt8)} (h : lineW g first k t = some g') : ∃ ns, nms t = some ns ∧ first = isT k ∧ put g k ns = some g' := by
  cases h1 : nms t with
  | none => rw [lineW_none h1] at h; simp at h
  | some ns =>
    by_cases h2 : first = isT k
    · exact ⟨ns, rfl, h2, by rw [← h, lineW_put h1 h2]⟩
    · rw [lineW_first h2] at h; simp at h
/-- what the lines make of a graph: or the number of the first wrong one -/
def rdP (g : Gr) (at' : Nat) (first : Bool) : List (List UInt8) → Gr ⊕ Nat
  | [] => .inr at'
  | [l] => if first = false ∧ l = [] then .inl g else .inr at'
  | l :: m :: r => match lineOf g l first with
    | none => .inr at'
    | some g' => rdP g' (at' + 1) false (m :: r)
def g0 : Gr := ⟨0, [], []⟩
/-- what Parse answers -/
def parse (s : List UInt8) : Gr × Int × Int :=
  if 8192 < s.length then (g0, 0, 2) else match rdP g0 1 true (sp 10 s) with
    | .inr n => (g0, n, 3)
    | .inl g => if gChk g = 0 then (g, 0, 0) else (g0, 0, gChk g)

/-- a line -/
def line (w : List UInt8) (ns : List Int) : List UInt8 := w ++ ns.flatMap (fun n => 32 :: itoa n) ++ [10]
def lvText (p : Int × Int) : List UInt8 := line wVertex [p.1, p.2]
def lgText (l : Lg) : List UInt8 := line wLeg [l.1, l.2.1, l.2.2.1, l.2.2.2]
def edText (e : Ed) : List UInt8 := line wEdge [e.1, e.2.1] ++ e.2.2.flatMap lgText
/-- what Print answers of a right graph -/
def gText (g : Gr) : List UInt8 := line wTime [g.hor] ++ g.lives.flatMap lvText ++ g.edges.flatMap edText

theorem nms_back : ∀ {ws : List (List UInt8)} {ns : List Int}, nms ws = some ns → ws = ns.map itoa ∧ ∀ n ∈ ns, 0 ≤ n ∧ n ≤ 9999
  | [], ns, h => by simp [nms] at h; subst h; simp
  | w :: ws, ns, h => by
    unfold nms at h
    cases h1 : nm w with
    | none => rw [h1] at h; simp at h
    | some n =>
      rw [h1] at h
      cases h2 : nms ws with
      | none => rw [h2] at h; simp at h
      | some l =>
        rw [h2] at h
        simp only [Option.some.injEq] at h
        subst h
        obtain ⟨e1, e2⟩ := nms_back h2
        obtain ⟨f1, f2, f3⟩ := nm_some h1
        refine ⟨by rw [List.map_cons, f1, ← e1], fun x hx => ?_⟩
        rcases List.mem_cons.1 hx with rfl | hx
        · exact ⟨f2, f3⟩
        · exact e2 x hx
theorem nms_itoa : ∀ {ns : List Int}, (∀ n ∈ ns, 0 ≤ n ∧ n ≤ 9999) → nms (ns.map itoa) = some ns
  | [], _ => rfl
  | n :: ns, h => by
    have h1 := h n (by simp)
    rw [List.map_cons, nms, nm_itoa h1.1 h1.2, nms_itoa fun x hx => h x (by simp [hx])]
theorem jn_map (w : List UInt8) : ∀ ns : List Int, jn 32 (w :: ns.map itoa) = w ++ ns.flatMap (fun n => 32 :: itoa n)
  | [] => by simp [jn]
  | n :: ns => by
    rw [List.map_cons, jn_cons _ _ (by simp), jn_map (itoa n) ns]
    simp
theorem sp_line {w : List UInt8} (hw : (32 : UInt8) ∉ w) : ∀ {ns : List Int}, (∀ n ∈ ns, 0 ≤ n) → sp 32 (w ++ ns.flatMap (fun n => 32 :: itoa n)) = w :: ns.map itoa
  | [], _ => by rw [List.flatMap_nil, List.append_nil, sp_none hw]; rfl
  | n :: ns, h => by
    rw [List.flatMap_cons, List.cons_append, sp_ahead _ hw, sp_line (itoa_not (h n (by simp)) (by decide)) fun x hx => h x (by simp [hx])]
    rfl

theorem putLeg_snoc (es : List Ed) (e : Ed) (l : Lg) : putLeg (es ++ [e]) l = es ++ [(e.1, e.2.1, e.2.2 ++ [l])] := by unfold putLeg; simp
theorem put_text {g g' : Gr} {k : List UInt8} {ns : List Int} (h : put g k ns = some g') (ht : k ≠ wTime) : gText g' = gText g ++ line k ns := by
  unfold put at h
  split at h
  · rw [if_neg ht] at h; simp at h
  · split at h
    · rename_i a b hk
      simp only [Option.some.injEq] at h
      subst h
      obtain ⟨rfl, he⟩ := hk
      simp [gText, he, lvText]
    · split at h
      · rename_i hk
        simp only [Option.some.injEq] at h
        subst h
        subst hk
        simp [gText, edText]
      · simp at h
  · split at h
    · rename_i a b c d hk
      simp only [Option.some.injEq] at h
      subst h
      obtain ⟨rfl, he⟩ := hk
      rcases List.eq_nil_or_concat g.edges with e | ⟨es, e, h0⟩
      · exact absurd e he
      · rw [List.concat_eq_append] at h0
        simp only [gText, h0, putLeg_snoc, List.flatMap_append, List.flatMap_cons, List.flatMap_nil, List.append_nil, edText, lgText, List.append_assoc]
    · simp at h
  · simp at h
theorem lineOf_text {g g' : Gr} {l : List UInt8} (h : lineOf g l false = some g') : gText g' = gText g ++ (l ++ [10]) := by
  obtain ⟨k, t, e⟩ := sp_cons 32 l
  rw [lineOf_eq e] at h
  obtain ⟨ns, h1, h2, h3⟩ := lineW_some h
  have hk : k ≠ wTime := by unfold isT at h2; simpa using h2
  rw [put_text h3 hk]
  have e2 := jn_sp 32 l
  rw [e, (nms_back h1).1, jn_map] at e2
  rw [line, e2]
theorem lineOf_first {g' : Gr} {l : List UInt8} (h : lineOf g0 l true = some g') : gText g' = l ++ [10] := by
  obtain ⟨k, t, e⟩ := sp_cons 32 l
  rw [lineOf_eq e] at h
  obtain ⟨ns, h1, h2, h⟩ := lineW_some h
  have hk : k = wTime := by unfold isT at h2; simpa using h2
  have e2 := jn_sp 32 l
  rw [e, (nms_back h1).1, jn_map] at e2
  subst hk
  unfold put at h
  split at h
  · simp only [if_true, Option.some.injEq] at h
    subst h
    simp [gText, g0, line, ← e2]
  · rw [if_neg (by simp [wTime, wVertex]), if_neg (by decide)] at h; simp at h
  · rw [if_neg (by simp [wTime, wLeg])] at h; simp at h
  · simp at h
theorem rdP_text : ∀ (ps : List (List UInt8)) (g g' : Gr) (n : Nat), rdP g n false ps = .inl g' → gText g' = gText g ++ jn 10 ps
  | [], g, g', n, h => by simp [rdP] at h
  | [l], g, g', n, h => by
    unfold rdP at h
    split at h
    · rename_i hl
      simp only [Sum.inl.injEq] at h
      subst h
      simp [hl.2, jn]
    · simp at h
  | l :: m :: r, g, g', n, h => by
    unfold rdP at h
    cases h1 : lineOf g l false with
    | none => rw [h1] at h; simp at h
    | some g1 =>
      rw [h1] at h
      rw [rdP_text (m :: r) g1 g' _ h, lineOf_text h1, jn_cons 10 l (t := m :: r) (by simp)]
      simp
theorem parse_text {s : List UInt8} {g : Gr} {a : Int} (h : parse s = (g, a, 0)) : gText g = s ∧ gChk g = 0 ∧ a = 0 := by
  unfold parse at h
  split at h
  · simp at h
  · split at h
    · simp at h
    · rename_i g1 hr
      split at h
      · rename_i hc
        simp only [Prod.mk.injEq] at h
        obtain ⟨rfl, h2, _⟩ := h
        refine ⟨?_, hc, h2.symm⟩
        have e := jn_sp 10 s
        obtain ⟨l, t, e2⟩ := sp_cons 10 s
        rw [e2] at hr e
        cases t with
        | nil => simp [rdP] at hr
        | cons m r =>
          unfold rdP at hr
          cases h1 : lineOf g0 l true with
          | none => rw [h1] at hr; simp at hr
          | some g2 =>
            rw [h1] at hr
            rw [rdP_text (m :: r) g2 g1 _ hr, lineOf_first h1, ← e, jn_cons 10 l (t := m :: r) (by simp)]
            simp
      · rename_i hc
        simp only [Prod.mk.injEq] at h
        exact absurd h.2.2 hc

/-- a printed line ahead of a text is its first piece -/
theorem sp_nl {w : List UInt8} (hw : (10 : UInt8) ∉ w) {ns : List Int} (h : ∀ n ∈ ns, 0 ≤ n) (s : List UInt8) : sp 10 (line w ns ++ s) = (w ++ ns.flatMap (fun n => 32 :: itoa n)) :: sp 10 s := by
  have hc : (10 : UInt8) ∉ w ++ ns.flatMap (fun n => 32 :: itoa n) := by
    intro k
    rcases List.mem_append.1 k with k | k
    · exact hw k
    · obtain ⟨n, hn, k⟩ := List.mem_flatMap.1 k
      rcases List.mem_cons.1 k with k | k
      · simp at k
      · exact itoa_not (h n hn) (by decide) k
  rw [line, List.append_assoc, List.singleton_append, sp_ahead _ hc]
theorem rdP_line {w : List UInt8} (hw : (10 : UInt8) ∉ w) (hw2 : (32 : UInt8) ∉ w) {ns : List Int} (h : ∀ n ∈ ns, 0 ≤ n ∧ n ≤ 9999) (s : List UInt8) (g g' : Gr) (n : Nat) (first : Bool) (h1 : first = isT w) (hp : put g w ns = some g') :
    rdP g n first (sp 10 (line w ns ++ s)) = rdP g' (n + 1) false (sp 10 s) := by
  have e := sp_nl hw (fun n hn => (h n hn).1) s
  obtain ⟨a, t, e2⟩ := sp_cons 10 s
  rw [e, e2, rdP, lineOf_eq (sp_line hw2 fun n hn => (h n hn).1), lineW_put (nms_itoa h) h1, hp]
theorem rdP_legs : ∀ (ls : List Lg) (h : Int) (lv : List (Int × Int)) (es : List Ed) (a b : Int) (l0 : List Lg) (n : Nat) (s : List UInt8), (∀ l ∈ ls, ∀ n ∈ [l.1, l.2.1, l.2.2.1, l.2.2.2], 0 ≤ n ∧ n ≤ 9999) →
    ∃ n', rdP ⟨h, lv, es ++ [(a, b, l0)]⟩ n false (sp 10 (ls.flatMap lgText ++ s)) = rdP ⟨h, lv, es ++ [(a, b, l0 ++ ls)]⟩ n' false (sp 10 s)
  | [], h, lv, es, a, b, l0, n, s, _ => ⟨n, by simp⟩
  | l :: ls, h, lv, es, a, b, l0, n, s, hb => by
    obtain ⟨n', e⟩ := rdP_legs ls h lv es a b (l0 ++ [l]) (n + 1) s fun x hx => hb x (by simp [hx])
    refine ⟨n', ?_⟩
    rw [List.flatMap_cons, List.append_assoc, lgText, rdP_line (by decide) (by decide) (hb l (by simp)) _ _ ⟨h, lv, es ++ [(a, b, l0 ++ [l])]⟩ n false (by decide) ?_, e]
    · simp
    · rw [put, if_pos ⟨rfl, by simp⟩, putLeg_snoc]
theorem rdP_edges : ∀ (es' : List Ed) (h : Int) (lv : List (Int × Int)) (es : List Ed) (n : Nat), (∀ e ∈ es', (∀ n ∈ [e.1, e.2.1], 0 ≤ n ∧ n ≤ 9999) ∧ ∀ l ∈ e.2.2, ∀ n ∈ [l.1, l.2.1, l.2.2.1, l.2.2.2], 0 ≤ n ∧ n ≤ 9999) →
    ∃ n', rdP ⟨h, lv, es⟩ n false (sp 10 (es'.flatMap edText)) = rdP ⟨h, lv, es ++ es'⟩ n' false (sp 10 [])
  | [], h, lv, es, n, _ => ⟨n, by simp⟩
  | e :: es', h, lv, es, n, hb => by
    obtain ⟨h1, h2⟩ := hb e (by simp)
    obtain ⟨n1, e1⟩ := rdP_legs e.2.2 h lv es e.1 e.2.1 [] (n + 1) (es'.flatMap edText) h2
    obtain ⟨n2, e2⟩ := rdP_edges es' h lv (es ++ [e]) n1 fun x hx => hb x (by simp [hx])
    refine ⟨n2, ?_⟩
    rw [List.flatMap_cons, edText, List.append_assoc, rdP_line (by decide) (by decide) h1 _ _ ⟨h, lv, es ++ [(e.1, e.2.1, [])]⟩ n false (by decide) ?_, e1, List.nil_append, e2]
    · simp
    · rw [put, if_neg (fun k => by simp [wEdge, wVertex] at k), if_pos rfl]
theorem rdP_lives : ∀ (ls : List (Int × Int)) (h : Int) (lv : List (Int × Int)) (n : Nat) (s : List UInt8), (∀ p ∈ ls, ∀ n ∈ [p.1, p.2], 0 ≤ n ∧ n ≤ 9999) →
    ∃ n', rdP ⟨h, lv, []⟩ n false (sp 10 (ls.flatMap lvText ++ s)) = rdP ⟨h, lv ++ ls, []⟩ n' false (sp 10 s)
  | [], h, lv, n, s, _ => ⟨n, by simp⟩
  | l :: ls, h, lv, n, s, hb => by
    obtain ⟨n', e⟩ := rdP_lives ls h (lv ++ [l]) (n + 1) s fun x hx => hb x (by simp [hx])
    refine ⟨n', ?_⟩
    rw [List.flatMap_cons, List.append_assoc, lvText, rdP_line (by decide) (by decide) (hb l (by simp)) _ _ ⟨h, lv ++ [l], []⟩ n false (by decide) ?_, e]
    · simp
    · rw [put, if_pos ⟨rfl, rfl⟩]

theorem itoa_len {n : Int} (h : 0 ≤ n) (k : Nat) (h9 : n < (10 ^ (k + 1) : Nat)) : (itoa n).length ≤ k + 1 := by
  rw [itoa_nat h, decDigits_length]
  have : ∀ (k u : Nat), u < 10 ^ (k + 1) → nDigits u ≤ k + 1 := by
    intro k
    induction k with
    | zero => intro u hu; rw [nDigits_small (by simpa using hu)]; omega
    | succ k ih =>
      intro u hu
      by_cases h : u < 10
      · rw [nDigits_small h]; omega
      · rw [nDigits_big h]
        have := ih (u / 10) (by rw [Nat.pow_succ] at hu; omega)
        omega
  exact this k _ (by omega)
theorem flat_len {α : Type} (f : α → List UInt8) (k : Nat) : ∀ (l : List α), (∀ x ∈ l, (f x).length ≤ k) → (l.flatMap f).length ≤ k * l.length
  | [], _ => by simp
  | x :: l, h => by
    have h1 := h x (by simp)
    have h2 := flat_len f k l fun y hy => h y (by simp [hy])
    rw [List.flatMap_cons, List.length_append, List.length_cons, Nat.mul_succ]
    omega
theorem right_len {g : Gr} (h : Right g) : (gText g).length ≤ 8000 := by
  have a1 := itoa_len (n := g.hor) (by have := h.hor; omega) 2 (by have := h.hor; omega)
  have hh := h.hor
  have a2 : (g.lives.flatMap lvText).length ≤ 20 * g.lives.length := by
    refine flat_len _ _ _ fun p hp => ?_
    have := h.life p hp
    have b1 := itoa_len (n := p.1) (by omega) 2 (by omega)
    have b2 := itoa_len (n := p.2) (by omega) 2 (by omega)
    simp [lvText, line, wVertex]; omega
  have a3 : (g.edges.flatMap edText).length ≤ 200 * g.edges.length := by
    refine flat_len _ _ _ fun e he => ?_
    have he' := h.ends e he
    have hlv := h.lvs
    have b1 := itoa_len (n := e.1) (by omega) 2 (by omega)
    have b2 := itoa_len (n := e.2.1) (by omega) 2 (by omega)
    have b3 : (e.2.2.flatMap lgText).length ≤ 25 * e.2.2.length := by
      refine flat_len _ _ _ fun l hl => ?_
      have hf := (fitB_iff l g.hor).1 (h.legs e he l hl)
      have c1 := itoa_len (n := l.1) (by omega) 2 (by omega)
      have c2 := itoa_len (n := l.2.1) (by omega) 2 (by omega)
      have c3 := itoa_len (n := l.2.2.1) (by omega) 2 (by omega)
      have c4 := itoa_len (n := l.2.2.2) (by omega) 3 (by omega)
      simp [lgText, line, wLeg]; omega
    simp [edText, line, wEdge]; simp at b3; omega
  have := h.lvs
  have := h.eds
  simp [gText, line, wTime] at *
  omega
/-- what is printed is read as it was -/
theorem parse_print {g : Gr} (h : gChk g = 0) : parse (gText g) = (g, 0, 0) := by
  have R := gChk_right h
  have hh := R.hor
  have hlv := R.lvs
  obtain ⟨n1, e1⟩ := rdP_lives g.lives g.hor [] 2 (g.edges.flatMap edText) fun p hp n hn => by
    have := R.life p hp
    simp at hn; rcases hn with rfl | rfl <;> omega
  obtain ⟨n2, e2⟩ := rdP_edges g.edges g.hor g.lives [] n1 fun e he => by
    have he' := R.ends e he
    refine ⟨fun n hn => by simp at hn; rcases hn with rfl | rfl <;> omega, fun l hl n hn => ?_⟩
    have hf := (fitB_iff l g.hor).1 (R.legs e he l hl)
    simp at hn; rcases hn with rfl | rfl | rfl | rfl <;> omega
  have e3 : rdP g0 1 true (sp 10 (gText g)) = .inl g := by
    rw [gText, List.append_assoc, rdP_line (by decide) (by decide) (fun n hn => by simp at hn; omega) _ _ ⟨g.hor, [], []⟩ 1 true (by decide) (by rw [put, if_pos rfl]; rfl), e1, List.nil_append, e2, List.nil_append]
    rw [sp, rdP, if_pos ⟨rfl, rfl⟩]
  have := right_len R
  rw [parse, if_neg (by omega), e3]
  simp only [if_pos h]

end Go.Proofs.YtjjhhmlogddnkaiDoor

namespace Go.Proofs.YtjjhhmlogddnkaiDoor
open Go.Lib

theorem ix_none {c : UInt8} : ∀ {l : List UInt8}, c ∉ l → index l [c] = -1
  | [], _ => by simp [index]
  | b :: l, h => by
    have hb : b ≠ c := fun e => h (by simp [e])
    have hp : ([c] : List UInt8).isPrefixOf (b :: l) = false := by simp [List.isPrefixOf, Ne.symm hb]
    rw [index, hp, ix_none fun k => h (List.mem_cons_of_mem _ k)]
    simp
theorem ix_at {c : UInt8} : ∀ {a : List UInt8} (l : List UInt8), c ∉ a → index (a ++ c :: l) [c] = (a.length : Int)
  | [], l, _ => by rw [List.nil_append, index]; simp [List.isPrefixOf]
  | b :: a, l, h => by
    have hb : b ≠ c := fun e => h (by simp [e])
    have hp : ([c] : List UInt8).isPrefixOf (b :: (a ++ c :: l)) = false := by simp [List.isPrefixOf, Ne.symm hb]
    have ih := ix_at l fun k => h (List.mem_cons_of_mem _ k)
    rw [List.cons_append, index, hp, ih]
    simp
theorem mem_split_first {c : UInt8} : ∀ {l : List UInt8}, c ∈ l → ∃ a r, l = a ++ c :: r ∧ c ∉ a
  | [], h => by simp at h
  | b :: l, h => by
    by_cases hb : b = c
    · subst hb; exact ⟨[], l, rfl, by simp⟩
    · rcases List.mem_cons.1 h with k | k
      · exact absurd k.symm hb
      · obtain ⟨a, r, e, hn⟩ := mem_split_first k
        exact ⟨b :: a, r, by rw [e]; rfl, fun q => by rcases List.mem_cons.1 q with q | q; exact hb q.symm; exact hn q⟩
theorem splitK_sp (c : UInt8) : ∀ (n : Nat) (l : List UInt8), l.length ≤ n → splitK [c] 0 (l.count c) l = sp c l := by
  intro n
  induction n with
  | zero =>
    intro l h
    have e : l = [] := List.eq_nil_of_length_eq_zero (by omega)
    subst e
    rfl
  | succ n ih =>
    intro l h
    by_cases hc : c ∈ l
    · obtain ⟨a, r, rfl, ha⟩ := mem_split_first hc
      have e : (a ++ c :: r).count c = r.count c + 1 := by rw [List.count_append, List.count_eq_zero_of_not_mem ha, List.count_cons_self]; omega
      have i := ix_at r ha
      rw [e, splitK, if_neg (by rw [i]; simp), i, sp_ahead r ha]
      have d : (a ++ c :: r).drop (((a.length : Int)).toNat + ([c] : List UInt8).length) = r := by simp [List.drop_append]
      have t : (a ++ c :: r).take (((a.length : Int)).toNat + 0) = a := by simp
      rw [d, t, ih r (by simp at h; omega)]
    · rw [List.count_eq_zero_of_not_mem hc, sp_none hc]; rfl
theorem split_sp (c : UInt8) (s : ByteArray) : (splitB ⟨#[c]⟩ 0 (countB s ⟨#[c]⟩) s).map (·.data.toList) = sp c s.data.toList := by
  rw [splitB_data]
  show splitK [c] 0 (count s.data.toList [c]) _ = _
  rw [count_one, splitK_sp c _ _ (Nat.le_refl _)]
theorem split_len (c : UInt8) (s : ByteArray) : countB s ⟨#[c]⟩ + 1 = (sp c s.data.toList).length := by
  rw [← split_sp, List.length_map, splitB_all _ (by simp [ByteArray.size]) 0 _ s rfl]
theorem cut_none {c : UInt8} {l : List UInt8} (h : c ∉ l) : cut l [c] = (l, [], false) := by
  unfold cut; rw [ix_none h, if_neg (by decide)]
theorem cut_at {c : UInt8} {a : List UInt8} (r : List UInt8) (h : c ∉ a) : cut (a ++ c :: r) [c] = (a, r, true) := by
  unfold cut
  rw [ix_at r h, if_pos (by omega)]
  simp [List.drop_append]
/-- Cut, by the pieces -/
theorem cut_sp (c : UInt8) (l : List UInt8) : (∃ a m r, sp c l = a :: m :: r ∧ cut l [c] = (a, jn c (m :: r), true) ∧ sp c (jn c (m :: r)) = m :: r) ∨ (sp c l = [l] ∧ cut l [c] = (l, [], false)) := by
  by_cases hc : c ∈ l
  · obtain ⟨a, r, rfl, ha⟩ := mem_split_first hc
    obtain ⟨m, t, e⟩ := sp_cons c r
    refine .inl ⟨a, m, t, by rw [sp_ahead r ha, e], ?_, ?_⟩
    · rw [← e, jn_sp, cut_at r ha]
    · rw [← e, jn_sp]
  · exact .inr ⟨sp_none hc, cut_none hc⟩

end Go.Proofs.YtjjhhmlogddnkaiDoor

namespace Go.Proofs.YtjjhhmlogddnkaiDoor
open Go.RowKit

/-- the table that Itoa reads -/
def Tab (w : World) : Prop := Lib.TabIs Tryd.prog w "internal/strconv.uint64pow10" .u64 Lib.pow10Tab
/-- .. and it lies below B -/
structure TbI (B : Nat) (w : World) : Prop where
  tab : Tab w
  low : ∀ g, Tryd.prog.globalNamed "internal/strconv.uint64pow10" = some g → g < B
theorem Tab.low {w : World} (h : Tab w) : TbI w.heap.size w := by
  refine ⟨h, fun g hg => ?_⟩
  have h' : w.var? Tryd.prog "internal/strconv.uint64pow10" = some _ := h
  rcases Nat.lt_or_ge g w.heap.size with k | k
  · exact k
  · simp [World.var?, hg, Array.getElem?_eq_none k] at h'
theorem TbI.mono {B B' : Nat} {w : World} (h : TbI B w) (k : B ≤ B') : TbI B' w := ⟨h.tab, fun g hg => Nat.lt_of_lt_of_le (h.low g hg) k⟩
theorem TbI.below {B : Nat} {w w' : World} (h : TbI B w) (hb : Below B w w') : TbI B w' := by
  refine ⟨?_, h.low⟩
  have h' : w.var? Tryd.prog "internal/strconv.uint64pow10" = some _ := h.tab
  obtain ⟨g, hg⟩ : ∃ g, Tryd.prog.globalNamed "internal/strconv.uint64pow10" = some g := by
    cases e : Tryd.prog.globalNamed "internal/strconv.uint64pow10" with
    | none => simp [World.var?, e] at h'
    | some g => exact ⟨g, rfl⟩
  exact var?_below hb hg (h.low g hg) h'

theorem below_grw (B : Nat) (w : World) (hB : B ≤ w.heap.size) (k : Nat) (os : Array Obj) : Below B w (Sort.grow (w.drewN k) os) :=
  ⟨rfl, rfl, rfl, by simp [Sort.grow, World.drewN], fun j hj => by
    have hj' : j < w.heap.size := by omega
    simp [Sort.grow, World.drewN, Array.getElem?_append_left hj']⟩

/-- Itoa of a number from 0 on -/
theorem itoa_any (n : Int) (h0 : 0 ≤ n) (h1 : n ≤ 9999) (w : World) (h : Tab w) :
    Calls Tryd.prog 28 #[.int .i64 n] w fun e w' => e = .returned (.string ⟨(Lib.itoa n).toArray⟩) ∧ Below w.heap.size w w' :=
  (Tryd.strconv_Itoa n (by omega) (by omega) w h).mono fun _ _ ⟨h1, k, os, h2⟩ => ⟨h1, by rw [h2]; exact below_grw _ w (Nat.le_refl _) k os⟩

theorem bsize (l : List UInt8) : (⟨l.toArray⟩ : ByteArray).size = l.length := by show l.toArray.size = _; simp
end Go.Proofs.YtjjhhmlogddnkaiDoor

namespace Go.Proofs.YtjjhhmlogddnkaiDoor
open Go.RowKit

theorem flat_take (ns : List Int) (k : Nat) (hk : k < ns.length) : (ns.take (k + 1)).flatMap (fun n => 32 :: Lib.itoa n) = (ns.take k).flatMap (fun n => 32 :: Lib.itoa n) ++ (32 :: Lib.itoa ns[k]) := by
  rw [List.take_succ_eq_append_getElem hk, List.flatMap_append, List.flatMap_singleton]
theorem numLen {ns : List Int} (h : ∀ n ∈ ns, 0 ≤ n ∧ n ≤ 9999) (k : Nat) : ((ns.take k).flatMap (fun n => 32 :: Lib.itoa n)).length ≤ 5 * ns.length := by
  have := flat_len (fun n => 32 :: Lib.itoa n) 5 (ns.take k) (fun n hn => by
    have hn' := h n (List.mem_of_mem_take hn)
    have := itoa_len (n := n) hn'.1 3 (by omega)
    simp; omega)
  have hl : (ns.take k).length ≤ ns.length := by simp; omega
  have := Nat.mul_le_mul_left 5 hl
  omega

set_option maxHeartbeats 2000000 in
set_option maxRecDepth 100000 in
theorem writeLine_any (B b : Nat) (l : List UInt8) (word : ByteArray) (k0 cap : Nat) (fz : Nat × Nat) (ns : List Int) (w : World) (h : BdAt B b l w) (hT : TbI B w) (hk : w.heap[k0]? = some (.cells (ns.map (Value.int .i64)).toArray 3 fz)) (hkb : k0 ≠ b)
    (hl : l.length ≤ 100000) (hw : word.size ≤ 100) (hn : ns.length ≤ 4) (hns : ∀ n ∈ ns, 0 ≤ n ∧ n ≤ 9999) (hBw : B ≤ w.heap.size) :
    Calls Tryd.prog 14 #[.pointer (some ⟨b, 0, none⟩), .string word, .slice (some ⟨k0, 0, none⟩) ns.length cap] w fun e w' => e = .returned (.tuple #[]) ∧ BdAt B b (l ++ line word.data.toList ns) w' ∧ Wrote B b w w' := by
  have hsz : word.data.toList.length = word.size := by rw [Array.length_toList]; rfl
  have H32 : ∀ (l : List UInt8) (W : World), BdAt B b l W → l.length + 1 ≤ 140737488355328 → B ≤ W.heap.size → Calls Tryd.prog 27 #[.pointer (some ⟨b, 0, none⟩), .int .u8 32] W fun e w' => e = .returned .nilIface ∧ BdAt B b (l ++ [32]) w' ∧ Wrote B b W w' := fun l W h1 h2 h3 => WriteByte_any B b l 32 W h1 h2 h3
  have H10 : ∀ (l : List UInt8) (W : World), BdAt B b l W → l.length + 1 ≤ 140737488355328 → B ≤ W.heap.size → Calls Tryd.prog 27 #[.pointer (some ⟨b, 0, none⟩), .int .u8 10] W fun e w' => e = .returned .nilIface ∧ BdAt B b (l ++ [10]) w' ∧ Wrote B b W w' := fun l W h1 h2 h3 => WriteByte_any B b l 10 W h1 h2 h3
  have HT := hideg hT
  have HK := hideg hk
  have HNS := hideg hns
  have HLen := hideg (numLen hns)
  have H0 := hideg (WriteString_any B b l word w h (by omega) hBw)
  have hH := hideg (⟨H32, H10⟩ : _ ∧ _)
  have HSZ := hideg hsz
  clear hT hk hns h H32 H10 hsz
  go_enter Tryd.func14, Tryd.ntmps14
  go_wp2_with (go_at_call 26; refine H0.out.mono ?_; rintro e w1 ⟨rfl, hd1, hw1⟩)
  go_loopw [7, 13] (fun _ i wr => ∃ k : Nat, k ≤ ns.length ∧ i = .int .i64 k ∧ BdAt B b (l ++ word.data.toList ++ (ns.take k).flatMap (fun n => 32 :: Lib.itoa n)) wr ∧ Wrote B b w wr) (fun _ i _ => ns.length - (intOf i).toNat)
  case atStart => exact ⟨0, Nat.zero_le _, rfl, by simpa using hd1, hw1⟩
  case round =>
    obtain ⟨k, hkl, rfl, hd, hww⟩ := hrel
    have hl1 := HLen.out k
    have hBr : B ≤ wr.heap.size := Nat.le_trans hBw hww.size
    have hlen : (l ++ word.data.toList ++ (ns.take k).flatMap (fun n => 32 :: Lib.itoa n)).length ≤ 100120 := by
      rw [List.length_append, List.length_append, HSZ.out]; omega
    have HD := hideg hd
    have HW := hideg hww
    have HLN := hideg hlen
    clear hd hww hl1 hlen
    by_cases hlt : k < ns.length
    · have hheap := HW.out.cells HK.out hkb (by decide)
      have c0 : wr.cell? ⟨k0, k, none⟩ = some (.int .i64 ns[k]) := by rw [Lib.cell_of_heap hheap]; simp [hlt]
      have hn' := HNS.out ns[k] (List.getElem_mem hlt)
      have HF := hideg (flat_take ns k hlt)
      have HI := hideg (itoa_len (n := ns[k]) hn'.1 3 (by omega))
      clear hheap
      go_wp2_with (go_at_call 27; refine (hH.out.1 _ _ HD.out (by have := HLN.out; omega) hBr).mono ?_; rintro e w2 ⟨rfl, hd2, hw2⟩)
      have HD2 := hideg hd2
      have HW2 := hideg (HW.out.trans hw2)
      have hB2 : B ≤ w2.heap.size := Nat.le_trans hBr hw2.size
      have ht2 := (HT.out.below HW2.out.1).tab
      clear hd2 hw2 c0
      go_wp2_with (go_at_call 28; refine (itoa_any _ hn'.1 hn'.2 _ ht2).mono ?_; rintro e w3 ⟨rfl, hb3⟩)
      have HD3 := hideg (HD2.out.below hb3)
      have HW3 := hideg (HW2.out.trans (Wrote.of_below (b := b) hb3 hB2))
      have hB3 : B ≤ w3.heap.size := Nat.le_trans hB2 hb3.size
      clear hb3 ht2
      go_wp2_with (go_at_call 26; refine (WriteString_any B b _ _ _ HD3.out (by have := HLN.out; have := HI.out; rw [bsize, List.length_append, List.length_singleton]; omega) hB3).mono ?_; rintro e w4 ⟨rfl, hd4, hw4⟩)
      go_roundw
      case rel => exact ⟨k + 1, by omega, by go_num, by rw [HF.out]; simpa using hd4, HW3.out.trans hw4⟩
      case measure => simp [intOf]; omega
    · have hke : k = ns.length := by omega
      subst hke
      go_wp2_with (go_at_call 27; refine (hH.out.2 _ _ HD.out (by have := HLN.out; omega) hBr).mono ?_; rintro e w2 ⟨rfl, hd2, hw2⟩)
      go_end0
      exact ⟨rfl, by simpa [line] using hd2, HW.out.trans hw2⟩

end Go.Proofs.YtjjhhmlogddnkaiDoor

namespace Go.Proofs.YtjjhhmlogddnkaiDoor
open Go.RowKit

theorem within_any (n lo hi : Int) (w : World) : Calls Tryd.prog 23 #[.int .i64 n, .int .i64 lo, .int .i64 hi] w fun e w' => e = .returned (.bool (inR n lo hi)) ∧ w' = w := by
  by_cases g1 : lo ≤ n
  · by_cases g2 : n ≤ hi
    · have HC := hideg ((inR_iff n lo hi).2 ⟨g1, g2⟩)
      go_enter Tryd.func23, Tryd.ntmps23
      go_wp2
      go_ret
      exact ⟨ret_bool HC.out.symm, rfl⟩
    · have HC := hideg (inR_no (n := n) (lo := lo) (hi := hi) (fun h => g2 h.2))
      go_enter Tryd.func23, Tryd.ntmps23
      go_wp2
      go_ret
      exact ⟨ret_bool HC.out.symm, rfl⟩
  · have HC := hideg (inR_no (n := n) (lo := lo) (hi := hi) (fun h => g1 h.1))
    go_enter Tryd.func23, Tryd.ntmps23
    go_wp2
    go_ret
    exact ⟨ret_bool HC.out.symm, rfl⟩

theorem span_any (a b h : Int) (w : World) : Calls Tryd.prog 24 #[.int .i64 a, .int .i64 b, .int .i64 h] w fun e w' => e = .returned (.bool (spanB a b h)) ∧ w' = w := by
  by_cases g1 : 0 ≤ a
  · by_cases g2 : a < b
    · by_cases g3 : b ≤ h
      · have HC := hideg ((spanB_iff a b h).2 ⟨g1, g2, g3⟩)
        go_enter Tryd.func24, Tryd.ntmps24
        go_wp2
        go_ret
        exact ⟨ret_bool HC.out.symm, rfl⟩
      · have HC := hideg (spanB_no (a := a) (b := b) (h := h) (fun k => g3 k.2.2))
        go_enter Tryd.func24, Tryd.ntmps24
        go_wp2
        go_ret
        exact ⟨ret_bool HC.out.symm, rfl⟩
    · have HC := hideg (spanB_no (a := a) (b := b) (h := h) (fun k => g2 k.2.1))
      go_enter Tryd.func24, Tryd.ntmps24
      go_wp2
      go_ret
      exact ⟨ret_bool HC.out.symm, rfl⟩
  · have HC := hideg (spanB_no (a := a) (b := b) (h := h) (fun k => g1 k.1))
    go_enter Tryd.func24, Tryd.ntmps24
    go_wp2
    go_ret
    exact ⟨ret_bool HC.out.symm, rfl⟩

set_option maxHeartbeats 1000000 in
theorem fits_any (l : Lg) (h : Int) (w : World) : Calls Tryd.prog 37 #[.agg #[.int .i64 l.1, .int .i64 l.2.1, .int .i64 l.2.2.1, .int .i64 l.2.2.2], .int .i64 h] w fun e w' => e = .returned (.bool (fitB l h)) ∧ Below w.heap.size w w' := by
  have HB := hideg (gal w)
  have HF : Hid (fitB l h = (spanB l.1 l.2.1 h && (inR l.2.2.1 1 50 && inR l.2.2.2 0 1000))) := rfl
  cases e1 : spanB l.1 l.2.1 h <;> cases e2 : inR l.2.2.1 1 50 <;> cases e3 : inR l.2.2.2 0 1000 <;> rw [e1, e2, e3] at HF
  all_goals
    go_enter Tryd.func37, Tryd.ntmps37
    go_wp2_with (first | (go_at_call 24; refine (span_any _ _ _ _).mono ?_; rintro e w' ⟨rfl, rfl⟩) | (go_at_call 23; refine (within_any _ _ _ _).mono ?_; rintro e w' ⟨rfl, rfl⟩))
    go_ret
    exact ⟨ret_bool HF.out.symm, HB.out _⟩

set_option maxRecDepth 100000 in
theorem gHasV_any (h : Int) (la ea : Option Addr) (nl lc ne ec : Nat) (v : Int) (w : World) (hnl : nl ≤ 12) :
    Calls Tryd.prog 21 #[.agg #[.int .i64 h, .slice la nl lc, .slice ea ne ec], .int .i64 v] w fun r w' => r = .returned (.bool (inR v 0 ((nl : Int) - 1))) ∧ Below w.heap.size w w' := by
  have HB := hideg (gal w)
  go_enter Tryd.func21, Tryd.ntmps21
  go_wp2_with (go_at_call 23; refine (within_any _ _ _ _).mono ?_; rintro e w' ⟨rfl, rfl⟩)
  go_ret
  exact ⟨rfl, HB.out _⟩

set_option maxRecDepth 100000 in
theorem gHasT_any (h : Int) (la ea : Option Addr) (nl lc ne ec : Nat) (t : Int) (w : World) (h0 : 1 ≤ h) (h1 : h ≤ 100) :
    Calls Tryd.prog 31 #[.agg #[.int .i64 h, .slice la nl lc, .slice ea ne ec], .int .i64 t] w fun r w' => r = .returned (.bool (inR t 0 (h - 1))) ∧ Below w.heap.size w w' := by
  have HB := hideg (gal w)
  go_enter Tryd.func31, Tryd.ntmps31
  go_wp2_with (go_at_call 23; refine (within_any _ _ _ _).mono ?_; rintro e w' ⟨rfl, rfl⟩)
  go_ret
  exact ⟨rfl, HB.out _⟩

end Go.Proofs.YtjjhhmlogddnkaiDoor

namespace Go.Proofs.YtjjhhmlogddnkaiDoor
open Go.RowKit

theorem edChk_none {h n : Int} {e : Ed} (k : (inR e.1 0 (n - 1) && inR e.2.1 0 (n - 1)) = false) : edChk h n e = 4 := by unfold edChk; rw [if_pos k]
theorem edChk_large {h n : Int} {e : Ed} (k : (inR e.1 0 (n - 1) && inR e.2.1 0 (n - 1)) = true) (l : 6 < e.2.2.length) : edChk h n e = 2 := by unfold edChk; rw [if_neg (by simp [k]), if_pos l]
theorem edChk_legs {h n : Int} {e : Ed} (k : (inR e.1 0 (n - 1) && inR e.2.1 0 (n - 1)) = true) (l : ¬ 6 < e.2.2.length) : edChk h n e = lgChk h 0 e.2.2 := by unfold edChk; rw [if_neg (by simp [k]), if_neg l]

set_option maxRecDepth 100000 in
set_option maxHeartbeats 4000000 in
theorem checkEdge_any (h : Int) (la ea : Option Addr) (nl lc ne ec : Nat) (e : Ed) (lo : Option Addr) (lcap : Nat) (w : World) (hL : LgAt w lo e.2.2) (hnl : nl ≤ 12) :
    Calls Tryd.prog 25 #[.agg #[.int .i64 h, .slice la nl lc, .slice ea ne ec], .agg #[.int .i64 e.1, .int .i64 e.2.1, .slice lo e.2.2.length lcap]] w fun r w' => r = .returned (.int .i64 (edChk h nl e)) ∧ Below w.heap.size w w' := by
  obtain ⟨A, B, legs⟩ := e
  simp only at hL ⊢
  have HB : Hid (∀ o o', Below w.heap.size w ((w.alloc o).alloc o')) := fun o o' => ptg (gal w o) (gal _ o')
  obtain ⟨W2, hW2⟩ : ∃ x, x = (w.alloc (.cells #[.int .i64 h, .slice la nl lc, .slice ea ne ec] 25)).alloc (.cells #[.int .i64 A, .int .i64 B, .slice lo legs.length lcap] 54) := ⟨_, rfl⟩
  have HQ2 : Hid (∀ W, Below (w.heap.size + 2) W2 W → W.cell? ⟨w.heap.size, 0, none⟩ = some (.int .i64 h) ∧ W.cell? ⟨w.heap.size, 1, none⟩ = some (.slice la nl lc) ∧ W.cell? ⟨w.heap.size, 2, none⟩ = some (.slice ea ne ec) ∧ W.cell? ⟨w.heap.size + 1, 0, none⟩ = some (.int .i64 A) ∧ W.cell? ⟨w.heap.size + 1, 1, none⟩ = some (.int .i64 B) ∧ W.cell? ⟨w.heap.size + 1, 2, none⟩ = some (.slice lo legs.length lcap)) := by
    intro W hb
    refine ⟨?_, ?_, ?_, ?_, ?_, ?_⟩
    · rw [hb.cell (p := ⟨w.heap.size, 0, none⟩) (by simp), hW2]; simp
    · rw [hb.cell (p := ⟨w.heap.size, 1, none⟩) (by simp), hW2]; simp
    · rw [hb.cell (p := ⟨w.heap.size, 2, none⟩) (by simp), hW2]; simp
    · rw [hb.cell (p := ⟨w.heap.size + 1, 0, none⟩) (by simp), hW2]; simp
    · rw [hb.cell (p := ⟨w.heap.size + 1, 1, none⟩) (by simp), hW2]; simp
    · rw [hb.cell (p := ⟨w.heap.size + 1, 2, none⟩) (by simp), hW2]; simp
  have hs2 : W2.heap.size = w.heap.size + 2 := by rw [hW2]; simp
  have HW : Hid (∀ W, Below (w.heap.size + 2) W2 W → Below w.heap.size w W) := fun W hb => by rw [hW2] at hb; exact (HB.out _ _).trans (hb.mono (by omega))
  have hvA := fun W => gHasV_any h la ea nl lc ne ec A W hnl
  have hvB := fun W => gHasV_any h la ea nl lc ne ec B W hnl
  have HS2 := hideg hs2
  have hW2s := hW2.symm
  clear hs2 hW2
  cases e1 : inR A 0 ((nl : Int) - 1)
  · have HC := hideg (edChk_none (h := h) (n := nl) (e := (A, B, legs)) (by simp [e1]))
    rw [e1] at hvA
    have Q := HQ2.out W2 (Below.refl _ _)
    obtain ⟨q0, q1, q2, q3, q4, q5⟩ := Q
    clear hL hvB e1
    go_enter Tryd.func25, Tryd.ntmps25
    go_wp2_with fail
    refine (hvA _).mono ?_
    rintro e w3 ⟨rfl, hb3⟩
    have hbF := HW.out w3 (by rw [HS2.out] at hb3; exact hb3)
    clear hvA hb3 hW2s q0 q1 q2 q3 q4 q5
    go_wp2
    go_ret
    exact ⟨ret_int HC.out.symm, hbF⟩
  cases e2 : inR B 0 ((nl : Int) - 1)
  · have HC := hideg (edChk_none (h := h) (n := nl) (e := (A, B, legs)) (by simp [e2]))
    rw [e1] at hvA
    rw [e2] at hvB
    obtain ⟨q0, q1, q2, q3, q4, q5⟩ := HQ2.out W2 (Below.refl _ _)
    clear hL e1 e2
    go_enter Tryd.func25, Tryd.ntmps25
    go_wp2_with fail
    refine (hvA _).mono ?_
    rintro e w3 ⟨rfl, hb3⟩
    rw [HS2.out] at hb3
    have HB3 := hideg hb3
    clear hvA hb3 hW2s q0 q1 q2 q3 q4 q5
    obtain ⟨q0, q1, q2, q3, q4, q5⟩ := HQ2.out w3 HB3.out
    go_wp2_with fail
    refine (hvB _).mono ?_
    rintro e w4 ⟨rfl, hb4⟩
    have hbF := HW.out w4 (HB3.out.trans (hb4.mono (by have := HB3.out.size; have := HS2.out; omega)))
    clear hvB hb4 q0 q1 q2 q3 q4 q5
    go_wp2
    go_ret
    exact ⟨ret_int HC.out.symm, hbF⟩
  rw [e1] at hvA
  rw [e2] at hvB
  by_cases h6 : 6 < legs.length
  · have HC := hideg (edChk_large (h := h) (n := nl) (e := (A, B, legs)) (by simp [e1, e2]) h6)
    obtain ⟨q0, q1, q2, q3, q4, q5⟩ := HQ2.out W2 (Below.refl _ _)
    clear hL e1 e2
    go_enter Tryd.func25, Tryd.ntmps25
    go_wp2_with fail
    refine (hvA _).mono ?_
    rintro e w3 ⟨rfl, hb3⟩
    rw [HS2.out] at hb3
    have HB3 := hideg hb3
    clear hvA hb3 hW2s q0 q1 q2 q3 q4 q5
    obtain ⟨q0, q1, q2, q3, q4, q5⟩ := HQ2.out w3 HB3.out
    go_wp2_with fail
    refine (hvB _).mono ?_
    rintro e w4 ⟨rfl, hb4⟩
    have HB4 := hideg (HB3.out.trans (hb4.mono (by have := HB3.out.size; have := HS2.out; omega)))
    have hbF := HW.out w4 HB4.out
    clear hvB hb4 q0 q1 q2 q3 q4 q5
    obtain ⟨q0, q1, q2, q3, q4, q5⟩ := HQ2.out w4 HB4.out
    go_wp2
    go_ret
    exact ⟨ret_int HC.out.symm, hbF⟩
  have HC := hideg (edChk_legs (h := h) (n := nl) (e := (A, B, legs)) (by simp [e1, e2]) h6)
  have h6' : legs.length ≤ 6 := by omega
  obtain ⟨q0, q1, q2, q3, q4, q5⟩ := HQ2.out W2 (Below.refl _ _)
  clear e1 e2
  go_enter Tryd.func25, Tryd.ntmps25
  go_wp2_with fail
  refine (hvA _).mono ?_
  rintro e w3 ⟨rfl, hb3⟩
  rw [HS2.out] at hb3
  have HB3 := hideg hb3
  clear hvA hb3 hW2s q0 q1 q2 q3 q4 q5
  obtain ⟨q0, q1, q2, q3, q4, q5⟩ := HQ2.out w3 HB3.out
  go_wp2_with fail
  refine (hvB _).mono ?_
  rintro e w4 ⟨rfl, hb4⟩
  have HB4 := hideg (HB3.out.trans (hb4.mono (by have := HB3.out.size; have := HS2.out; omega)))
  clear hvB hb4 q0 q1 q2 q3 q4 q5
  obtain ⟨q0, q1, q2, q3, q4, q5⟩ := HQ2.out w4 HB4.out
  go_wp2_with fail
  go_loopw [6, 26] (fun _ i wr => ∃ k : Nat, k ≤ legs.length ∧ i = .int .i64 k ∧ lgChk h 0 legs = lgChk h (prevTo legs k) (legs.drop k) ∧ Below (w.heap.size + 2) W2 wr) (fun _ i _ => legs.length - (intOf i).toNat)
  case atStart => exact ⟨0, Nat.zero_le _, rfl, rfl, HB4.out⟩
  case round =>
    obtain ⟨k, hk, rfl, hI, hb⟩ := hrel
    have HI := hideg hI
    clear hI
    have hbw : Below w.heap.size w wr := HW.out wr hb
    clear q0 q1 q2 q3 q4 q5
    by_cases hlt : k < legs.length
    · have hz := hb.size
      rw [HS2.out] at hz
      have hz0 : w.heap.size < wr.heap.size := by omega
      have hz1 : w.heap.size + 1 < wr.heap.size := by omega
      rcases hL.below hbw with h0 | ⟨b, off, rfl, hbr, hc⟩
      · subst h0; simp at hlt
      obtain ⟨c0, c1, c2, c3⟩ := LgAt.get hlt hc
      have q0 : wr.cell? ⟨w.heap.size, 0, none⟩ = some (.int .i64 h) := (HQ2.out wr hb).1
      have HN : Hid (∀ o w1, Below (wr.alloc o).heap.size (wr.alloc o) w1 → Below w.heap.size w w1 ∧ Below (w.heap.size + 2) W2 w1) := by
        intro o w1 h1
        have := ptg (gal wr o) h1
        exact ⟨hbw.trans (this.mono hbw.size), hb.trans (this.mono (by omega))⟩
      cases ef : fitB legs[k] h
      · have HR := hideg (lg_bad hlt HI.out ef)
        clear hc hL
        go_wp2_with (go_at_call 37; refine (fits_any legs[k] _ _).mono ?_; rintro e w1 ⟨rfl, hb1⟩)
        go_ret
        exact ⟨ret_int (by rw [HC.out, HR.out]), (HN.out _ _ hb1).1⟩
      · have hf := (fitB_iff legs[k] h).1 ef
        by_cases hk0 : k = 0
        · subst hk0
          simp only [Nat.zero_mul, Nat.add_zero] at c0 c1 c2 c3
          have HR := hideg (lg_next hlt HI.out ef (by simp only [prevTo]; omega))
          clear hc hL hf
          go_wp2_with (go_at_call 37; refine (fits_any legs[0] _ _).mono ?_; rintro e w1 ⟨rfl, hb1⟩)
          go_quiet (fail)
          go_wp2
          go_roundw
          case rel => exact ⟨0 + 1, by omega, by go_num, HR.out, below_drewN (HN.out _ _ hb1).2 _⟩
          case measure => simp [intOf]; omega
        · obtain ⟨m, rfl⟩ : ∃ m, k = m + 1 := ⟨k - 1, by omega⟩
          have hm : m < legs.length := by omega
          have cp := (LgAt.get hm hc).2.1
          have HP := hideg (prevTo_succ hm)
          have q2 : wr.cell? ⟨w.heap.size + 1, 2, none⟩ = some (.slice (some ⟨b, off, none⟩) legs.length lcap) := (HQ2.out wr hb).2.2.2.2.2
          have HQ : Hid (∀ o w1, Below (wr.alloc o).heap.size (wr.alloc o) w1 → w1.cell? ⟨w.heap.size + 1, 2, none⟩ = some (.slice (some ⟨b, off, none⟩) legs.length lcap) ∧ w1.cell? ⟨b, off + m * 4 + 1, none⟩ = some (.int .i64 legs[m].2.1)) := by
            intro o w1 h1
            have := ptg (gal wr o) h1
            exact ⟨by rw [this.cell (p := ⟨w.heap.size + 1, 2, none⟩) (by simp; omega), q2], by rw [this.cell (p := ⟨b, off + m * 4 + 1, none⟩) hbr, cp]⟩
          by_cases g : legs[m + 1].1 < legs[m].2.1
          · have HR := hideg (lg_form hlt HI.out ef (by rw [HP.out]; exact g))
            clear hc hL hf q2 cp
            go_wp2_with (go_at_call 37; refine (fits_any legs[m + 1] _ _).mono ?_; rintro e w1 ⟨rfl, hb1⟩)
            have hb2 := hideg hb1
            obtain ⟨d2, dp⟩ := HQ.out _ _ hb2.out
            have d0 : w1.cell? ⟨wr.heap.size, 0, none⟩ = some (.int .i64 legs[m + 1].1) := by rw [hb2.out.cell (p := ⟨wr.heap.size, 0, none⟩) (by simp)]; simp
            go_quiet (fail)
            go_wp2
            go_ret
            exact ⟨ret_int (by rw [HC.out, HR.out]), below_drewN (HN.out _ _ hb2.out).1 _⟩
          · have HR := hideg (lg_next hlt HI.out ef (by rw [HP.out]; exact g))
            have dg : decide (legs[m + 1].1 < legs[m].2.1) = false := by simpa using g
            clear hc hL hf q2 cp
            go_wp2_with (go_at_call 37; refine (fits_any legs[m + 1] _ _).mono ?_; rintro e w1 ⟨rfl, hb1⟩)
            have hb2 := hideg hb1
            obtain ⟨d2, dp⟩ := HQ.out _ _ hb2.out
            have d0 : w1.cell? ⟨wr.heap.size, 0, none⟩ = some (.int .i64 legs[m + 1].1) := by rw [hb2.out.cell (p := ⟨wr.heap.size, 0, none⟩) (by simp)]; simp
            go_quiet (fail)
            go_wp2
            go_roundw
            case rel => exact ⟨m + 1 + 1, by omega, by go_num, HR.out, below_drewN (HN.out _ _ hb2.out).2 _⟩
            case measure => simp [intOf]; omega
    · have hkl : k = legs.length := by omega
      subst hkl
      have HR := hideg (lg_end HI.out)
      go_wp2
      go_ret
      exact ⟨ret_int (by rw [HC.out, HR.out]), hbw⟩

end Go.Proofs.YtjjhhmlogddnkaiDoor

namespace Go.Proofs.YtjjhhmlogddnkaiDoor
open Go.RowKit

set_option maxRecDepth 100000 in
set_option maxHeartbeats 4000000 in
theorem gCheck_any (g : Gr) (la ea : Option Addr) (lc ec : Nat) (w : World) (hG : GAt w la ea g) :
    Calls Tryd.prog 13 #[.agg #[.int .i64 g.hor, .slice la g.lives.length lc, .slice ea g.edges.length ec]] w fun r w' => r = .returned (.int .i64 (gChk g)) ∧ Below w.heap.size w w' := by
  obtain ⟨h, lives, edges⟩ := g
  have HB := hideg (gal w)
  cases e1 : inR h 1 100
  · have HC := hideg (gChk_hor (g := ⟨h, lives, edges⟩) e1)
    clear hG
    go_enter Tryd.func13, Tryd.ntmps13
    go_wp2_with (go_at_call 23; refine (within_any _ _ _ _).mono ?_; rintro e w' ⟨rfl, rfl⟩)
    go_ret
    exact ⟨ret_int HC.out.symm, HB.out _⟩
  by_cases n1 : 12 < lives.length
  · have HC := hideg (gChk_large (g := ⟨h, lives, edges⟩) e1 (.inl n1))
    clear hG
    go_enter Tryd.func13, Tryd.ntmps13
    go_wp2_with (go_at_call 23; refine (within_any _ _ _ _).mono ?_; rintro e w' ⟨rfl, rfl⟩)
    go_ret
    exact ⟨ret_int HC.out.symm, HB.out _⟩
  by_cases n2 : 30 < edges.length
  · have HC := hideg (gChk_large (g := ⟨h, lives, edges⟩) e1 (.inr n2))
    clear hG
    go_enter Tryd.func13, Tryd.ntmps13
    go_wp2_with (go_at_call 23; refine (within_any _ _ _ _).mono ?_; rintro e w' ⟨rfl, rfl⟩)
    go_ret
    exact ⟨ret_int HC.out.symm, HB.out _⟩
  have HL := hideg (fun k => gChk_life (g := ⟨h, lives, edges⟩) e1 (by simp only; omega) k)
  have HR := hideg (fun k => gChk_rest (g := ⟨h, lives, edges⟩) e1 (by simp only; omega) k)
  have hlv : IvAt w la lives := hG.lv
  have hed : EdAt w ea edges := hG.ed
  clear hG
  go_enter Tryd.func13, Tryd.ntmps13
  go_wp2_with (go_at_call 23; refine (within_any _ _ _ _).mono ?_; rintro e w' ⟨rfl, rfl⟩)
  go_loopw [25] (fun i wr => ∃ k : Nat, k ≤ lives.length ∧ i = .int .i64 k ∧ lvChk h lives = lvChk h (lives.drop k) ∧ Below (w.heap.size + 1) (w.alloc (.cells #[.int .i64 h, .slice la lives.length lc, .slice ea edges.length ec] 25)) wr) (fun i _ => lives.length - (intOf i).toNat)
  case atStart => exact ⟨0, Nat.zero_le _, rfl, rfl, Below.refl _ _⟩
  case round =>
    obtain ⟨k, hk, rfl, hI, hb⟩ := hrel
    have HI := hideg hI
    clear hI
    have hbw : Below w.heap.size w wr := (HB.out _).trans (hb.mono (by omega))
    have hz := hb.size
    simp only [World.size_alloc] at hz
    have hz0 : w.heap.size < wr.heap.size := by omega
    have q0 : wr.cell? ⟨w.heap.size, 0, none⟩ = some (.int .i64 h) := by rw [hb.cell (p := ⟨w.heap.size, 0, none⟩) (by simp)]; simp
    have q1 : wr.cell? ⟨w.heap.size, 1, none⟩ = some (.slice la lives.length lc) := by rw [hb.cell (p := ⟨w.heap.size, 1, none⟩) (by simp)]; simp
    have q2 : wr.cell? ⟨w.heap.size, 2, none⟩ = some (.slice ea edges.length ec) := by rw [hb.cell (p := ⟨w.heap.size, 2, none⟩) (by simp)]; simp
    by_cases hlt : k < lives.length
    · rcases hlv.below hbw with h0 | ⟨b, off, rfl, hbr, hc⟩
      · subst h0; simp at hlt
      obtain ⟨c0, c1⟩ := IvAt.get hlt hc
      have HN := hideg (fun o => (⟨hbw.alloc hbw.size o, hb.alloc (by omega) o⟩ : Below w.heap.size w (wr.alloc o) ∧ Below (w.heap.size + 1) (w.alloc (.cells #[.int .i64 h, .slice (some ⟨b, off, none⟩) lives.length lc, .slice ea edges.length ec] 25)) (wr.alloc o)))
      clear hc hlv hed
      cases ef : spanB lives[k].1 lives[k].2 h
      · have HC := hideg (lv_stop hlt HI.out ef)
        go_wp2_with (go_at_call 24; refine (span_any _ _ _ _).mono ?_; rintro e w1 ⟨rfl, rfl⟩)
        go_ret
        exact ⟨ret_int (HL.out HC.out).symm, (HN.out _).1⟩
      · have HC := hideg (lv_next hlt HI.out ef)
        go_wp2_with (go_at_call 24; refine (span_any _ _ _ _).mono ?_; rintro e w1 ⟨rfl, rfl⟩)
        go_roundw
        case rel => exact ⟨k + 1, by omega, by go_num, HC.out, (HN.out _).2⟩
        case measure => simp [intOf]; omega
    · have hkl : k = lives.length := by omega
      subst hkl
      have HC := hideg (HR.out (lv_end HI.out))
      have hlv2 := hlv.below hbw
      have hed2 := hed.below hbw
      have HBW := hideg hbw
      clear hlv hed hbw hb HL HR
      obtain ⟨wo, hwo⟩ : ∃ wo, wo = wr := ⟨_, rfl⟩
      subst hwo
      go_wp2
      go_loopw [7, 41] (fun _ i wr => ∃ k : Nat, k ≤ edges.length ∧ i = .int .i64 k ∧ edsChk h lives.length edges = edsChk h lives.length (edges.drop k) ∧ Below wo.heap.size wo wr) (fun _ i _ => edges.length - (intOf i).toNat)
      case atStart => exact ⟨0, Nat.zero_le _, rfl, rfl, Below.refl _ _⟩
      case round =>
        obtain ⟨k, hk, rfl, hI, hb⟩ := hrel
        have HI := hideg hI
        clear hI
        have hz := hb.size
        have hz1 : w.heap.size < wr.heap.size := by omega
        by_cases hlt : k < edges.length
        · rcases hed2.below hb with h0 | ⟨b, off, rfl, hbr, hc⟩
          · subst h0; simp at hlt
          obtain ⟨c0, c1, lo, lcap, c2, hL, _, _⟩ := hc k hlt
          have p0 : wr.cell? ⟨w.heap.size, 0, none⟩ = some (.int .i64 h) := by rw [hb.cell (p := ⟨w.heap.size, 0, none⟩) hz0, q0]
          have p2 : wr.cell? ⟨w.heap.size, 2, none⟩ = some (.slice (some ⟨b, off, none⟩) edges.length ec) := by rw [hb.cell (p := ⟨w.heap.size, 2, none⟩) hz0, q2]
          have p1 : wr.cell? ⟨w.heap.size, 1, none⟩ = some (.slice la lives.length lc) := by rw [hb.cell (p := ⟨w.heap.size, 1, none⟩) hz0, q1]
          have HN : Hid (∀ o w1, Below (wr.alloc o).heap.size (wr.alloc o) w1 → Below wo.heap.size wo w1) := by
            intro o w1 h1
            exact ptg hb (ptg (gal wr o) h1)
          have hcl := fun o => checkEdge_any h la (some ⟨b, off, none⟩) lives.length lc edges.length ec edges[k] lo lcap (wr.alloc o) (hL.below (gal wr o)) (by omega)
          clear hc hed2 hlv2 hL q0 q1 q2
          by_cases he : edChk h lives.length edges[k] = 0
          · have HC2 := hideg (eds_next hlt HI.out he)
            rw [he] at hcl
            clear he
            go_wp2_with (go_at_call 25; refine (hcl _).mono ?_; rintro e w1 ⟨rfl, hb1⟩)
            go_roundw
            case rel => exact ⟨k + 1, by omega, by go_num, HC2.out, HN.out _ _ hb1⟩
            case measure => simp [intOf]; omega
          · have HC2 := hideg (eds_stop hlt HI.out he)
            have hne : (edChk h lives.length edges[k] != 0) = true := by simpa using he
            generalize edChk h lives.length edges[k] = ev at *
            go_wp2_with (go_at_call 25; refine (hcl _).mono ?_; rintro e w1 ⟨rfl, hb1⟩)
            go_ret
            exact ⟨ret_int (by rw [HC.out]; exact HC2.out.symm), ptg HBW.out (HN.out _ _ hb1)⟩
        · have hkl : k = edges.length := by omega
          subst hkl
          have HC2 := hideg (eds_end HI.out)
          go_wp2
          go_ret
          exact ⟨ret_int (by rw [HC.out]; exact HC2.out.symm), ptg HBW.out hb⟩

end Go.Proofs.YtjjhhmlogddnkaiDoor

namespace Go.Proofs.YtjjhhmlogddnkaiDoor
open Go.RowKit

/-- what Print tells -/
def gOut (g : Gr) : List UInt8 := if gChk g = 0 then gText g else []

theorem fm_take {α : Type} (f : α → List UInt8) (l : List α) (k : Nat) (hk : k < l.length) : (l.take (k + 1)).flatMap f = (l.take k).flatMap f ++ f l[k] := by
  rw [List.take_succ_eq_append_getElem hk, List.flatMap_append, List.flatMap_singleton]
theorem fm_len {α : Type} (f : α → List UInt8) (c : Nat) (l : List α) (k : Nat) (h : ∀ x ∈ l, (f x).length ≤ c) : ((l.take k).flatMap f).length ≤ c * l.length := by
  have := flat_len f c (l.take k) fun x hx => h x (List.mem_of_mem_take hx)
  have hl : (l.take k).length ≤ l.length := by simp; omega
  have := Nat.mul_le_mul_left c hl
  omega
theorem line_len {w : List UInt8} {ns : List Int} (h : ∀ n ∈ ns, 0 ≤ n ∧ n ≤ 9999) : (line w ns).length ≤ w.length + 5 * ns.length + 1 := by
  have := numLen h ns.length
  rw [List.take_length] at this
  simp only [line, List.length_append, List.length_singleton]
  omega
/-- what is needed of a right graph here -/
structure Small (g : Gr) : Prop where
  hor : 0 ≤ g.hor ∧ g.hor ≤ 9999
  lvs : g.lives.length ≤ 12
  eds : g.edges.length ≤ 30
  life : ∀ p ∈ g.lives, ∀ n ∈ [p.1, p.2], 0 ≤ n ∧ n ≤ 9999
  ends : ∀ e ∈ g.edges, (∀ n ∈ [e.1, e.2.1], 0 ≤ n ∧ n ≤ 9999) ∧ e.2.2.length ≤ 6
  legs : ∀ e ∈ g.edges, ∀ l ∈ e.2.2, ∀ n ∈ [l.1, l.2.1, l.2.2.1, l.2.2.2], 0 ≤ n ∧ n ≤ 9999
theorem Right.small {g : Gr} (R : Right g) : Small g := by
  have hh := R.hor
  have hl := R.lvs
  refine ⟨by omega, R.lvs, R.eds, fun p hp n hn => ?_, fun e he => ⟨fun n hn => ?_, (R.ends e he).2.2⟩, fun e he l hl n hn => ?_⟩
  · have := R.life p hp
    simp at hn; rcases hn with rfl | rfl <;> omega
  · have := R.ends e he
    simp at hn; rcases hn with rfl | rfl <;> omega
  · have hf := (fitB_iff l g.hor).1 (R.legs e he l hl)
    simp at hn; rcases hn with rfl | rfl | rfl | rfl <;> omega
theorem lv_len {g : Gr} (S : Small g) : ∀ p ∈ g.lives, (lvText p).length ≤ 17 := fun p hp => by
  have := line_len (w := wVertex) (S.life p hp)
  simpa [lvText, wVertex] using this
theorem lg_len {g : Gr} (S : Small g) {e : Ed} (he : e ∈ g.edges) : ∀ l ∈ e.2.2, (lgText l).length ≤ 24 := fun l hl => by
  have := line_len (w := wLeg) (S.legs e he l hl)
  simpa [lgText, wLeg] using this
theorem ed_len {g : Gr} (S : Small g) : ∀ e ∈ g.edges, (edText e).length ≤ 200 := fun e he => by
  have h1 := line_len (w := wEdge) (S.ends e he).1
  have h2 := flat_len lgText 24 e.2.2 (lg_len S he)
  have h3 := (S.ends e he).2
  have h4 := Nat.mul_le_mul_left 24 h3
  have h5 : (line wEdge [e.1, e.2.1]).length ≤ 15 := by simpa [wEdge] using h1
  rw [edText, List.length_append]
  omega

set_option maxHeartbeats 8000000 in
set_option maxRecDepth 100000 in
theorem Print_any (g : Gr) (la ea : Option Addr) (lc ec : Nat) (w : World) (hG : GAt w la ea g) (hT : Tab w) :
    Calls Tryd.prog 5 #[.agg #[.int .i64 g.hor, .slice la g.lives.length lc, .slice ea g.edges.length ec]] w fun r w' => r = .returned (.tuple #[.string ⟨(gOut g).toArray⟩, .int .i64 (gChk g)]) ∧ Below w.heap.size w w' := by
  have HB := hideg (gal w)
  have hC := fun o => gCheck_any g la ea lc ec (w.alloc o) (hG.below (gal w o))
  by_cases h0 : gChk g = 0
  · have HO : Hid (gOut g = gText g) := if_pos h0
    have S := (gChk_right h0).small
    rw [h0] at hC ⊢
    clear h0
    obtain ⟨h, lives, edges⟩ := g
    simp only at hC ⊢
    have HS := hideg S
    have hh := S.hor
    simp only at hh
    have hlv : lives.length ≤ 12 := S.lvs
    have hed : edges.length ≤ 30 := S.eds
    have HG := hideg hG
    have HT := hideg hT
    clear hG hT S
    go_enter Tryd.func5, Tryd.ntmps5
    go_wp2_with fail
    refine (hC _).mono ?_
    rintro e w1 ⟨rfl, hb1⟩
    have HB1 := hideg (ptg (gal w _) hb1)
    have hz1 : w.heap.size < w1.heap.size := by have := hb1.size; simp at this; omega
    have q0 : w1.cell? ⟨w.heap.size, 0, none⟩ = some (.int .i64 h) := by rw [hb1.cell (p := ⟨w.heap.size, 0, none⟩) (by simp)]; simp
    have q1 : w1.cell? ⟨w.heap.size, 1, none⟩ = some (.slice la lives.length lc) := by rw [hb1.cell (p := ⟨w.heap.size, 1, none⟩) (by simp)]; simp
    have q2 : w1.cell? ⟨w.heap.size, 2, none⟩ = some (.slice ea edges.length ec) := by rw [hb1.cell (p := ⟨w.heap.size, 2, none⟩) (by simp)]; simp
    have HG1 := hideg (HG.out.below HB1.out)
    have HT1 := hideg (HT.out.low.below HB1.out)
    clear hC hb1 HG HT
    have HL0 := hideg (show (line wTime [h]).length ≤ 20 by have := line_len (w := wTime) (ns := [h]) (by simpa using hh); simp [wTime] at this ⊢; omega)
    go_wp2_with fail
    have hbd0 := hideg (bdAt_fresh w1)
    have hbx := hideg (gal w1 (.cells #[.pointer none, .slice none 0 0] 48))
    refine (writeLine_any w1.heap.size w1.heap.size [] ⟨#[116, 105, 109, 101]⟩ (w1.heap.size + 1) 1 (0, 0) [h] _ (BdAt.below hbd0.out (gal _ _)) ((HT1.out.mono (by omega)).below (hbx.out.alloc (by simp) _)) (by rw [show w1.heap.size + 1 = (w1.alloc (.cells #[.pointer none, .slice none 0 0] 48)).heap.size by simp]; exact heap_alloc_new _ _) (by omega) (by simp) (by decide) (by simp) (by simpa using hh) (by simp; omega)).mono ?_
    rintro e w2 ⟨rfl, hd2, hw2⟩
    have HD2 := hideg hd2
    have HB2 : Hid (Below w1.heap.size w1 w2) := (hbx.out.alloc (by simp) _).trans hw2.1
    clear hd2 hw2 hbd0 hbx
    have hz2 : w1.heap.size < w2.heap.size := HD2.out.lt
    have hz3 : w.heap.size < w2.heap.size := by omega
    have p0 : w2.cell? ⟨w.heap.size, 1, none⟩ = some (.slice la lives.length lc) := by rw [HB2.out.cell (p := ⟨w.heap.size, 1, none⟩) hz1, q1]
    clear q0
    go_wp2_with fail
    go_loopw [24] (fun i wr => ∃ k : Nat, k ≤ lives.length ∧ i = .int .i64 k ∧ BdAt w1.heap.size w1.heap.size (line wTime [h] ++ (lives.take k).flatMap lvText) wr ∧ Below w1.heap.size w1 wr) (fun i _ => lives.length - (intOf i).toNat)
    case atStart => exact ⟨0, Nat.zero_le _, rfl, by simpa [wTime] using HD2.out, HB2.out⟩
    case round =>
      obtain ⟨k, hk, rfl, hd, hb⟩ := hrel
      have HD := hideg hd
      have HBr := hideg hb
      have hzr : w1.heap.size < wr.heap.size := hd.lt
      have hzw : w.heap.size < wr.heap.size := by omega
      have HLn : Hid ((line wTime [h] ++ (lives.take k).flatMap lvText).length ≤ 1000) := by
        have h1 := HL0.out
        have h2 := fm_len lvText 17 lives k (lv_len HS.out)
        show _ ≤ _
        rw [List.length_append]; omega
      have HTr := hideg ((HT1.out.mono (B' := w1.heap.size) (by omega)).below hb)
      clear hd hb p0 HD2 HB2
      by_cases hlt : k < lives.length
      · have hlv2 := HG1.out.lv.below HBr.out
        rcases hlv2 with h0 | ⟨b, off, rfl, hbr, hc⟩
        · simp only at h0; subst h0; simp at hlt
        obtain ⟨c0, c1⟩ := IvAt.get hlt hc
        have hn := hideg (HS.out.life lives[k] (List.getElem_mem hlt))
        have HF := hideg (fm_take lvText lives k hlt)
        clear hc
        go_wp2_with fail
        refine (writeLine_any w1.heap.size w1.heap.size _ ⟨#[118, 101, 114, 116, 101, 120]⟩ (wr.heap.size + 1) 2 (0, 0) [lives[k].1, lives[k].2] _ (BdAt.below (BdAt.below HD.out (gal _ _)) (gal _ _)) ((HTr.out.below ((gal _ _).mono (by omega))).below ((gal _ _).mono (by simp; omega))) (by rw [show wr.heap.size + 1 = (wr.alloc (.cells #[.int .i64 lives[k].1, .int .i64 lives[k].2] 51)).heap.size by simp]; exact heap_alloc_new _ _) (by omega) (by have := HLn.out; omega) (by decide) (by simp) hn.out (by simp; omega)).mono ?_
        rintro e w3 ⟨rfl, hd3, hw3⟩
        have HE := hideg (⟨by rw [HF.out]; simpa [lvText, wVertex] using hd3, (HBr.out.alloc (by omega) _ |>.alloc (by simp; omega) _).trans hw3.1⟩ : BdAt w1.heap.size w1.heap.size (line wTime [h] ++ (lives.take (k + 1)).flatMap lvText) w3 ∧ Below w1.heap.size w1 w3)
        clear hd3 hw3
        go_wp2
        go_roundw
        case rel => exact ⟨k + 1, by omega, by go_num, HE.out⟩
        case measure => simp [intOf]; omega
      · have hke : k = lives.length := by omega
        subst hke
        rw [List.take_length] at HD HLn
        have p2 : wr.cell? ⟨w.heap.size, 2, none⟩ = some (.slice ea edges.length ec) := by rw [HBr.out.cell (p := ⟨w.heap.size, 2, none⟩) hz1, q2]
        obtain ⟨T0, hT0⟩ : ∃ T0, T0 = line wTime [h] ++ lives.flatMap lvText := ⟨_, rfl⟩
        have HT0 := hideg hT0
        rw [← hT0] at HD HLn
        clear hT0
        obtain ⟨wo, hwo⟩ : ∃ wo, wo = wr := ⟨_, rfl⟩
        subst hwo
        go_wp2_with fail
        go_loopw [38] (fun i wr => ∃ k : Nat, k ≤ edges.length ∧ i = .int .i64 k ∧ BdAt w1.heap.size w1.heap.size (T0 ++ (edges.take k).flatMap edText) wr ∧ Below w1.heap.size w1 wr) (fun i _ => edges.length - (intOf i).toNat)
        case atStart => exact ⟨0, Nat.zero_le _, rfl, by simpa using HD.out, HBr.out⟩
        case round =>
          clear HD HBr HTr p2
          obtain ⟨k, hk, rfl, hd, hb⟩ := hrel
          have HD := hideg hd
          have HBr := hideg hb
          have hzr : w1.heap.size < wr.heap.size := hd.lt
          have hzw : w.heap.size < wr.heap.size := by omega
          have HLe : Hid ((T0 ++ (edges.take k).flatMap edText).length ≤ 7000) := by
            have h1 := HLn.out
            have h2 := fm_len edText 200 edges k (ed_len HS.out)
            show _ ≤ _
            rw [List.length_append]; omega
          have HTr := hideg ((HT1.out.mono (B' := w1.heap.size) (by omega)).below hb)
          clear hd hb
          by_cases hlt : k < edges.length
          · rcases HG1.out.ed with h0 | ⟨b, off, rfl, hbr, hc⟩
            · simp only at h0; subst h0; simp at hlt
            obtain ⟨c0', c1', lo, lcap, c2', hL, _, _⟩ := hc k hlt
            have c0 := (HBr.out.cell (p := ⟨b, off + k * 3, none⟩) hbr).trans c0'
            have c1 := (HBr.out.cell (p := ⟨b, off + k * 3 + 1, none⟩) hbr).trans c1'
            have c2 := (HBr.out.cell (p := ⟨b, off + k * 3 + 2, none⟩) hbr).trans c2'
            have hbr2 : b < wr.heap.size := by omega
            clear c0' c1' c2'
            have hm := List.getElem_mem hlt
            have HN := hideg (HS.out.ends edges[k] hm)
            have HNl := hideg (HS.out.legs edges[k] hm)
            have HLl := hideg (fm_len lgText 24 edges[k].2.2 · (lg_len HS.out hm))
            have HF := hideg (fm_take edText edges k hlt)
            have HLg := hideg hL
            clear hc hL hm
            simp only at HN HNl HLl HF HLg c0 c1 c2
            generalize edges[k] = ed at *
            obtain ⟨A, B, legs⟩ := ed
            simp only at HN HNl HLl HF HLg c0 c1 c2
            have h6 : legs.length ≤ 6 := HN.out.2
            go_wp2_with fail
            refine (writeLine_any w1.heap.size w1.heap.size _ ⟨#[101, 100, 103, 101]⟩ (wr.heap.size + 1) 2 (0, 0) [A, B] _ (BdAt.below (BdAt.below HD.out (gal _ _)) (gal _ _)) ((HTr.out.below ((gal _ _).mono (by omega))).below ((gal _ _).mono (by simp; omega))) (by rw [show wr.heap.size + 1 = (wr.alloc (.cells #[.int .i64 A, .int .i64 B, .slice lo legs.length lcap] 54)).heap.size by simp]; exact heap_alloc_new _ _) (by omega) (by have := HLe.out; omega) (by decide) (by simp) HN.out.1 (by simp; omega)).mono ?_
            rintro e w3 ⟨rfl, hd3, hw3⟩
            have HD3 : Hid (BdAt w1.heap.size w1.heap.size (T0 ++ (edges.take k).flatMap edText ++ line wEdge [A, B]) w3) := hd3
            have HB3 := hideg ((HBr.out.alloc (by omega) _ |>.alloc (by simp; omega) _).trans hw3.1)
            have hbox := hw3.cells (k := wr.heap.size) (cs := #[.int .i64 A, .int .i64 B, .slice lo legs.length lcap]) (t := 54) (fz := (0, 0)) (((gal _ _).block _ (by simp)).trans (heap_alloc_new _ _)) (by omega) (by decide)
            have e2 : w3.cell? ⟨wr.heap.size, 2, none⟩ = some (.slice lo legs.length lcap) := by rw [Lib.cell_of_heap hbox]; rfl
            have hLT : Hid ((T0 ++ (edges.take k).flatMap edText ++ line wEdge [A, B]).length ≤ 7020) := by
              have h1 := HLe.out
              have h2 := line_len (w := wEdge) HN.out.1
              show _ ≤ _
              simp [wEdge] at h1 h2 ⊢; omega
            obtain ⟨T1, hT1⟩ : ∃ T1, T1 = T0 ++ (edges.take k).flatMap edText ++ line wEdge [A, B] := ⟨_, rfl⟩
            have HT1' := hideg hT1
            rw [← hT1] at HD3 hLT
            clear hd3 hw3 hbox c0 c1 c2 hT1
            obtain ⟨wv, hwv⟩ : ∃ wv, wv = wr := ⟨_, rfl⟩
            subst hwv
            go_wp2_with fail
            go_loopw [51] (fun i wr => ∃ j : Nat, j ≤ legs.length ∧ i = .int .i64 j ∧ BdAt w1.heap.size w1.heap.size (T1 ++ (legs.take j).flatMap lgText) wr ∧ Below w1.heap.size w1 wr) (fun i _ => legs.length - (intOf i).toNat)
            case atStart => exact ⟨0, Nat.zero_le _, rfl, by simpa using HD3.out, HB3.out⟩
            case round =>
              clear HD HBr HTr e2 HD3 HB3
              obtain ⟨j, hj, rfl, hd, hb⟩ := hrel
              have HD := hideg hd
              have HBr := hideg hb
              have hzr : w1.heap.size < wr.heap.size := hd.lt
              have HTr := hideg ((HT1.out.mono (B' := w1.heap.size) (by omega)).below hb)
              have HLj : Hid ((T1 ++ (legs.take j).flatMap lgText).length ≤ 7200) := by
                have h1 := hLT.out
                have h2 := HLl.out j
                show _ ≤ _
                rw [List.length_append]; omega
              clear hd hb
              by_cases hjl : j < legs.length
              · rcases HLg.out.below HBr.out with h0 | ⟨b', off', rfl, hbr', hc'⟩
                · subst h0; simp at hjl
                obtain ⟨d0, d1, d2, d3⟩ := LgAt.get hjl hc'
                have hn := hideg (HNl.out legs[j] (List.getElem_mem hjl))
                have HFj := hideg (fm_take lgText legs j hjl)
                clear hc'
                go_wp2_with fail
                refine (writeLine_any w1.heap.size w1.heap.size _ ⟨#[108, 101, 103]⟩ (wr.heap.size + 1) 4 (0, 0) [legs[j].1, legs[j].2.1, legs[j].2.2.1, legs[j].2.2.2] _ (BdAt.below (BdAt.below HD.out (gal _ _)) (gal _ _)) ((HTr.out.below ((gal _ _).mono (by omega))).below ((gal _ _).mono (by simp; omega))) (by rw [show wr.heap.size + 1 = (wr.alloc (.cells #[.int .i64 legs[j].1, .int .i64 legs[j].2.1, .int .i64 legs[j].2.2.1, .int .i64 legs[j].2.2.2] 56)).heap.size by simp]; exact heap_alloc_new _ _) (by omega) (by have := HLj.out; omega) (by decide) (by simp) hn.out (by simp; omega)).mono ?_
                rintro e w4 ⟨rfl, hd4, hw4⟩
                have HE := hideg (⟨by rw [HFj.out]; simpa [lgText, wLeg] using hd4, (HBr.out.alloc (by omega) _ |>.alloc (by simp; omega) _).trans hw4.1⟩ : BdAt w1.heap.size w1.heap.size (T1 ++ (legs.take (j + 1)).flatMap lgText) w4 ∧ Below w1.heap.size w1 w4)
                clear hd4 hw4
                go_wp2
                go_roundw
                case rel => exact ⟨j + 1, by omega, by go_num, HE.out⟩
                case measure => simp [intOf]; omega
              · have hje : j = legs.length := by omega
                subst hje
                rw [List.take_length] at HD
                have HE : Hid (BdAt w1.heap.size w1.heap.size (T0 ++ (edges.take (k + 1)).flatMap edText) wr) := by
                  have := HD.out
                  rw [HT1'.out] at this
                  show BdAt _ _ _ _
                  rw [HF.out, edText]
                  simpa using this
                go_wp2
                go_roundw
                case rel => exact ⟨k + 1, by omega, by go_num, HE.out, HBr.out⟩
                case measure => simp [intOf]; omega
          · have hke : k = edges.length := by omega
            subst hke
            rw [List.take_length] at HD
            go_wp2_with fail
            refine (BString_any w1.heap.size w1.heap.size _ _ HD.out (by omega)).mono ?_
            rintro e w3 ⟨rfl, hb3⟩
            go_wp2
            go_ret2
            exact ⟨by rw [HO.out, gText, HT0.out]; rfl, HB1.out.trans ((HBr.out.trans hb3).mono (by omega))⟩
  · have HO : Hid (gOut g = []) := if_neg h0
    have hne : (gChk g != 0) = true := by simpa using h0
    generalize gChk g = ev at *
    clear hG hT
    go_enter Tryd.func5, Tryd.ntmps5
    go_wp2_with (go_at_call 13; refine (hC _).mono ?_; rintro e w1 ⟨rfl, hb1⟩)
    go_ret2
    exact ⟨by rw [HO.out]; rfl, ptg (HB.out _) hb1⟩

end Go.Proofs.YtjjhhmlogddnkaiDoor

namespace Go.Proofs.YtjjhhmlogddnkaiDoor
open Go.RowKit

/-- the cells of legs, of edges -/
def enc4 (m : List Lg) : List Value := m.flatMap fun l => [.int .i64 l.1, .int .i64 l.2.1, .int .i64 l.2.2.1, .int .i64 l.2.2.2]
def encE (L : List (Ed × Value)) : List Value := L.flatMap fun p => [.int .i64 p.1.1, .int .i64 p.1.2.1, p.2]
theorem enc4_append (a b : List Lg) : enc4 (a ++ b) = enc4 a ++ enc4 b := by unfold enc4; rw [List.flatMap_append]
theorem encE_append (a b : List (Ed × Value)) : encE (a ++ b) = encE a ++ encE b := by unfold encE; rw [List.flatMap_append]
theorem enc4_cons (l : Lg) (m : List Lg) : enc4 (l :: m) = .int .i64 l.1 :: .int .i64 l.2.1 :: .int .i64 l.2.2.1 :: .int .i64 l.2.2.2 :: enc4 m := by unfold enc4; rw [List.flatMap_cons]; rfl
theorem encE_cons (p : Ed × Value) (m : List (Ed × Value)) : encE (p :: m) = .int .i64 p.1.1 :: .int .i64 p.1.2.1 :: p.2 :: encE m := by unfold encE; rw [List.flatMap_cons]; rfl
theorem enc4_length : ∀ m : List Lg, (enc4 m).length = m.length * 4
  | [] => rfl
  | l :: m => by rw [enc4_cons]; have := enc4_length m; simp [this]; omega
theorem encE_length : ∀ m : List (Ed × Value), (encE m).length = m.length * 3
  | [] => rfl
  | l :: m => by rw [encE_cons]; have := encE_length m; simp [this]; omega
theorem enc4_get : ∀ (m : List Lg) (j : Nat) (h : j < m.length), (enc4 m)[j * 4]? = some (.int .i64 m[j].1) ∧ (enc4 m)[j * 4 + 1]? = some (.int .i64 m[j].2.1) ∧ (enc4 m)[j * 4 + 2]? = some (.int .i64 m[j].2.2.1) ∧ (enc4 m)[j * 4 + 3]? = some (.int .i64 m[j].2.2.2)
  | [], j, h => by simp at h
  | l :: m, 0, _ => by rw [enc4_cons]; exact ⟨rfl, rfl, rfl, rfl⟩
  | l :: m, j + 1, h => by
    have := enc4_get m j (by simp at h; omega)
    rw [enc4_cons, show (j + 1) * 4 = j * 4 + 4 by omega]
    simpa using this
theorem encE_get : ∀ (m : List (Ed × Value)) (j : Nat) (h : j < m.length), (encE m)[j * 3]? = some (.int .i64 m[j].1.1) ∧ (encE m)[j * 3 + 1]? = some (.int .i64 m[j].1.2.1) ∧ (encE m)[j * 3 + 2]? = some m[j].2
  | [], j, h => by simp at h
  | l :: m, 0, _ => by rw [encE_cons]; exact ⟨rfl, rfl, rfl⟩
  | l :: m, j + 1, h => by
    have := encE_get m j (by simp at h; omega)
    rw [encE_cons, show (j + 1) * 3 = j * 3 + 3 by omega]
    simpa using this
theorem encE_set (M : List (Ed × Value)) (A B : Int) (l l' : List Lg) (v v' : Value) : (encE (M ++ [((A, B, l), v)])).set (M.length * 3 + 2) v' = encE (M ++ [((A, B, l'), v')]) := by
  rw [encE_append, encE_append, List.set_append_right _ _ (by rw [encE_length]; omega), encE_length, show M.length * 3 + 2 - M.length * 3 = 2 by omega]
  rfl

theorem encs_app2 (a b : List (Int × Int)) : encs (a ++ b) = encs a ++ encs b := by unfold encs flat; rw [List.flatMap_append, List.map_append]

theorem row_ne {w : World} {base e size : Nat} {v : Value} {n : Nat} {xs : List Value} {b : Nat} {cs : Array Value} {T : TypeId} {fr : Nat × Nat} (h : w.ownsRow base e size v n xs) (hb : w.heap[b]? = some (.cells cs T fr)) (hT : T ≠ e) : v.ownBlock ≠ some b := by
  rcases h.2 with ⟨rfl, _⟩ | ⟨g, cap, cur, rfl, _, hg, _⟩
  · simp [Value.ownBlock]
  · intro h
    simp only [Value.ownBlock, Option.some.injEq] at h
    subst h
    rw [hg] at hb
    simp only [Option.some.injEq, Obj.cells.injEq] at hb
    exact hT hb.2.1.symm
theorem row_set {w : World} {base e size : Nat} {v : Value} {n : Nat} {xs : List Value} {b j : Nat} {u : Value} (h : w.ownsRow base e size v n xs) (hne : v.ownBlock ≠ some b) : (w.setCell ⟨b, j, none⟩ u).ownsRow base e size v n xs :=
  h.kept (row := some b) ⟨rfl, rfl, rfl, by simp [World.setCell], fun k _ hk => Below.heap_setCell _ _ _ _ (fun e => hk (by simp [e]))⟩ (Or.inr hne)
theorem row_block {w : World} {base e size : Nat} {v : Value} {n : Nat} {xs : List Value} {b : Nat} (h : w.ownsRow base e size v n xs) (hb : v.ownBlock = some b) : ∃ cur, w.heap[b]? = some (.cells cur e (0, 0)) := by
  rcases h.2 with ⟨rfl, _⟩ | ⟨g, cap, cur, rfl, _, hg, _⟩
  · simp [Value.ownBlock] at hb
  · simp only [Value.ownBlock, Option.some.injEq] at hb
    subst hb
    exact ⟨cur, hg⟩
theorem row_grown {w w' : World} {base e e' size size' : Nat} {v v' : Value} {n n' : Nat} {xs xs' : List Value} (h : w.ownsRow base e size v n xs) (h' : w.ownsRow base e' size' v' n' xs') (hg : w.grownBy w' v'.ownBlock) (hne : e ≠ e') : w'.ownsRow base e size v n xs := by
  refine h.kept hg ?_
  cases hv : v.ownBlock with
  | none => simp
  | some b =>
    obtain ⟨cur, hb⟩ := row_block h hv
    exact .inr fun k => row_ne h' hb hne k.symm
theorem heap_ltg {w : World} {b : Nat} {o : Obj} (h : w.heap[b]? = some o) : b < w.heap.size := by
  rcases Nat.lt_or_ge b w.heap.size with k | k
  · exact k
  · rw [Array.getElem?_eq_none k] at h; simp at h

/-- a graph that is being read: its box b and its lists, from B on -/
structure GOwn (B b : Nat) (w : World) (hor : Int) (vL vE : Value) (lives : List (Int × Int)) (L : List (Ed × Value)) : Prop where
  box : w.heap[b]? = some (.cells #[.int .i64 hor, vL, vE] 25 (0, 0))
  low : B ≤ b
  lv : w.ownsRow B 51 2 vL lives.length (encs lives)
  ed : w.ownsRow B 54 3 vE L.length (encE L)
  lg : ∀ p ∈ L, w.ownsRow B 56 4 p.2 p.1.2.2.length (enc4 p.1.2.2)
  ap : ∀ M p, L = M ++ [p] → ∀ q ∈ M, q.2.ownBlock = none ∨ q.2.ownBlock ≠ p.2.ownBlock

theorem GOwn.below {B b : Nat} {w w' : World} {hor : Int} {vL vE : Value} {lives : List (Int × Int)} {L : List (Ed × Value)} (h : GOwn B b w hor vL vE lives L) (hb : Below w.heap.size w w') : GOwn B b w' hor vL vE lives L :=
  ⟨by rw [hb.block _ (heap_ltg h.box)]; exact h.box, h.low, ownsRow_below h.lv hb, ownsRow_below h.ed hb, fun p hp => ownsRow_below (h.lg p hp) hb, h.ap⟩
theorem GOwn.first (B b : Nat) (w : World) (hb : w.heap[b]? = some (.cells #[.int .i64 0, .slice none 0 0, .slice none 0 0] 25 (0, 0))) (hB : B ≤ b) : GOwn B b w 0 (.slice none 0 0) (.slice none 0 0) [] [] :=
  ⟨hb, hB, World.ownsRow_nil _ _ _ _, World.ownsRow_nil _ _ _ _, fun p hp => by simp at hp, fun M p h => by simp at h⟩
theorem box_set {w : World} {b : Nat} {cs : Array Value} {T : TypeId} {fr : Nat × Nat} (h : w.heap[b]? = some (.cells cs T fr)) (j : Nat) (u : Value) : (w.setCell ⟨b, j, none⟩ u).heap[b]? = some (.cells (cs.setIfInBounds j u) T fr) := by
  simp [World.setCell, Array.getElem?_modify, h]

theorem GOwn.setHor {B b : Nat} {w : World} {hor : Int} {vL vE : Value} {lives : List (Int × Int)} {L : List (Ed × Value)} (h : GOwn B b w hor vL vE lives L) (x : Int) : GOwn B b (w.setCell ⟨b, 0, none⟩ (.int .i64 x)) x vL vE lives L :=
  ⟨by rw [box_set h.box]; rfl, h.low, row_set h.lv (row_ne h.lv h.box (by decide)), row_set h.ed (row_ne h.ed h.box (by decide)), fun p hp => row_set (h.lg p hp) (row_ne (h.lg p hp) h.box (by decide)), h.ap⟩
theorem GOwn.life {B b : Nat} {w wa w1 : World} {hor : Int} {vL vE v' : Value} {lives : List (Int × Int)} {L : List (Ed × Value)} {x y : Int} (h : GOwn B b w hor vL vE lives L) (hb : Below w.heap.size w wa) (hg : wa.grownBy w1 vL.ownBlock) (ho : w1.ownsRow B 51 2 v' (lives.length + 1) (encs lives ++ [.int .i64 x, .int .i64 y])) :
    w1.heap[b]? = some (.cells #[.int .i64 hor, vL, vE] 25 (0, 0)) ∧ GOwn B b (w1.setCell ⟨b, 1, none⟩ v') hor v' vE (lives ++ [(x, y)]) L := by
  have ha := h.below hb
  have hbox : w1.heap[b]? = some (.cells #[.int .i64 hor, vL, vE] 25 (0, 0)) := by rw [hg.block b (heap_ltg ha.box) (fun k => row_ne ha.lv ha.box (by decide) k.symm)]; exact ha.box
  have hed := row_grown ha.ed ha.lv hg (by decide)
  have hlg := fun p hp => row_grown (ha.lg p hp) ha.lv hg (by decide)
  refine ⟨hbox, by rw [box_set hbox]; rfl, h.low, ?_, row_set hed (row_ne hed hbox (by decide)), fun p hp => row_set (hlg p hp) (row_ne (hlg p hp) hbox (by decide)), h.ap⟩
  have := row_set (b := b) (j := 1) (u := v') ho (row_ne ho hbox (by decide))
  rw [List.length_append, encs_app2]
  exact this
theorem GOwn.edge {B b : Nat} {w wa w1 : World} {hor : Int} {vL vE v' : Value} {lives : List (Int × Int)} {L : List (Ed × Value)} {x y : Int} (h : GOwn B b w hor vL vE lives L) (hb : Below w.heap.size w wa) (hg : wa.grownBy w1 vE.ownBlock) (ho : w1.ownsRow B 54 3 v' (L.length + 1) (encE L ++ [.int .i64 x, .int .i64 y, .slice none 0 0])) :
    w1.heap[b]? = some (.cells #[.int .i64 hor, vL, vE] 25 (0, 0)) ∧ GOwn B b (w1.setCell ⟨b, 2, none⟩ v') hor vL v' lives (L ++ [((x, y, []), .slice none 0 0)]) := by
  have ha := h.below hb
  have hbox : w1.heap[b]? = some (.cells #[.int .i64 hor, vL, vE] 25 (0, 0)) := by rw [hg.block b (heap_ltg ha.box) (fun k => row_ne ha.ed ha.box (by decide) k.symm)]; exact ha.box
  have hlv := row_grown ha.lv ha.ed hg (by decide)
  have hlg := fun p hp => row_grown (ha.lg p hp) ha.ed hg (by decide)
  refine ⟨hbox, by rw [box_set hbox]; rfl, h.low, row_set hlv (row_ne hlv hbox (by decide)), ?_, fun p hp => ?_, fun M p e q hq => ?_⟩
  · have := row_set (b := b) (j := 2) (u := v') ho (row_ne ho hbox (by decide))
    rw [List.length_append, encE_append]
    exact this
  · rcases List.mem_append.1 hp with k | k
    · exact row_set (hlg p k) (row_ne (hlg p k) hbox (by decide))
    · rw [List.mem_singleton.1 k]
      exact World.ownsRow_nil _ _ _ _
  · have e2 := List.append_inj_right' e rfl
    simp only [List.cons.injEq, and_true] at e2
    subst e2
    cases q.2.ownBlock <;> simp [Value.ownBlock]
theorem GOwn.leg {B b : Nat} {w wa w1 : World} {hor : Int} {vL v : Value} {ge cap : Nat} {lives : List (Int × Int)} {M : List (Ed × Value)} {A C : Int} {legs : List Lg} {l : Lg} {g' n' c' H : Nat} (h : GOwn B b w hor vL (.slice (some ⟨ge, 0, none⟩) (M.length + 1) cap) lives (M ++ [((A, C, legs), v)])) (hb : Below w.heap.size w wa) (hg : wa.grownBy w1 v.ownBlock)
    (ho : w1.ownsRow B 56 4 (.slice (some ⟨g', 0, none⟩) n' c') (legs.length + 1) (enc4 legs ++ [.int .i64 l.1, .int .i64 l.2.1, .int .i64 l.2.2.1, .int .i64 l.2.2.2])) (hat : v.ownBlock = some g' ∨ g' = H) (hH : w.heap.size ≤ H) :
    w1.heap[b]? = some (.cells #[.int .i64 hor, vL, .slice (some ⟨ge, 0, none⟩) (M.length + 1) cap] 25 (0, 0)) ∧ w1.cell? ⟨ge, M.length * 3 + 2, none⟩ = some v ∧ w1.frozen? ⟨ge, M.length * 3 + 2, none⟩ = false ∧
    GOwn B b (w1.setCell ⟨ge, M.length * 3 + 2, none⟩ (.slice (some ⟨g', 0, none⟩) n' c')) hor vL (.slice (some ⟨ge, 0, none⟩) (M.length + 1) cap) lives (M ++ [((A, C, legs ++ [l]), .slice (some ⟨g', 0, none⟩) n' c')]) := by
  have ha := h.below hb
  have hlast := ha.lg ((A, C, legs), v) (by simp)
  have hbox : w1.heap[b]? = some (.cells #[.int .i64 hor, vL, .slice (some ⟨ge, 0, none⟩) (M.length + 1) cap] 25 (0, 0)) := by rw [hg.block b (heap_ltg ha.box) (fun k => row_ne hlast ha.box (by decide) k.symm)]; exact ha.box
  have hlv := row_grown ha.lv hlast hg (by decide)
  have hed := row_grown ha.ed hlast hg (by decide)
  have hlen : (M ++ [((A, C, legs), v)]).length = M.length + 1 := by simp
  rw [hlen] at hed
  obtain ⟨cur, hge⟩ := row_block hed (b := ge) rfl
  have hlg : ∀ q ∈ M, w1.ownsRow B 56 4 q.2 q.1.2.2.length (enc4 q.1.2.2) := fun q hq => (ha.lg q (by simp [hq])).kept hg (h.ap M _ rfl q hq)
  have hst := (hed.stored (M.length * 3 + 2) (.slice (some ⟨g', 0, none⟩) n' c')).1
  have hgb : ge ≠ b := fun e => by subst e; rw [hbox] at hge; simp at hge
  refine ⟨hbox, ?_, hed.frozenAt _, ?_, h.low, row_set hlv (row_ne hlv hge (by decide)), ?_, fun p hp => ?_, fun M' p e q hq => ?_⟩
  · rw [hed.cellAt _ (by omega)]
    have := (encE_get (M ++ [((A, C, legs), v)]) M.length (by simp)).2.2
    simpa using this
  · rw [Below.heap_setCell _ _ _ _ (Ne.symm hgb)]; exact hbox
  · rw [encE_set M A C legs (legs ++ [l])] at hst
    simpa using hst
  · rcases List.mem_append.1 hp with k | k
    · exact row_set (hlg p k) (row_ne (hlg p k) hge (by decide))
    · rw [List.mem_singleton.1 k]
      have := row_set (b := ge) (j := M.length * 3 + 2) (u := .slice (some ⟨g', 0, none⟩) n' c') ho (row_ne ho hge (by decide))
      rw [List.length_append, enc4_append]
      exact this
  · have e2 := List.append_inj_right' e rfl
    have e1 := List.append_inj_left' e rfl
    simp only [List.cons.injEq, and_true] at e2
    subst e2 e1
    cases hq' : q.2.ownBlock with
    | none => simp
    | some k =>
      right
      intro hk
      simp only [Value.ownBlock] at hk
      rcases hat with hat | hat
      · have := h.ap M _ rfl q hq
        rw [hq'] at this
        rcases this with k' | k'
        · simp at k'
        · exact k' (by rw [hk, hat])
      · have := ((h.lg q (by simp [hq])).lt k hq').2
        simp at hk
        omega

/-- a graph that is being read -/
def GO (B b : Nat) (w : World) (g : Gr) : Prop := ∃ vL vE L, GOwn B b w g.hor vL vE g.lives L ∧ g.edges = L.map (·.1)
theorem GO.below {B b : Nat} {w w' : World} {g : Gr} (h : GO B b w g) (hb : Below w.heap.size w w') : GO B b w' g := by
  obtain ⟨vL, vE, L, h, e⟩ := h
  exact ⟨vL, vE, L, h.below hb, e⟩
theorem lgAt_of_owns {w : World} {base e : Nat} {v : Value} {n : Nat} {m : List Lg} (h : w.ownsRow base e 4 v n (enc4 m)) : ∃ ao cap, v = .slice ao m.length cap ∧ LgAt w ao m ∧ m.length ≤ cap ∧ cap ≤ 9223372036854775807 := by
  obtain ⟨h1, h2⟩ := h
  simp only [enc4_length] at h1
  have hn : n = m.length := by omega
  subst hn
  rcases h2 with ⟨rfl, h0⟩ | ⟨g, cap, cur, rfl, hb, hh, h3, h4, h5, h6⟩
  · exact ⟨none, 0, by rw [h0], .inl (List.eq_nil_of_length_eq_zero h0), by omega, by omega⟩
  · have hown : w.ownsRow base e 4 (.slice (some ⟨g, 0, none⟩) m.length cap) m.length (enc4 m) := ⟨by simp [enc4_length], .inr ⟨g, cap, cur, rfl, hb, hh, h3, h4, h5, h6⟩⟩
    refine ⟨_, cap, rfl, .inr ⟨g, 0, rfl, (Array.getElem?_eq_some_iff.1 hh).1, fun j hj => ?_⟩, h3, by unfold maxLen at h4; omega⟩
    obtain ⟨f0, f1, f2, f3⟩ := enc4_get m j hj
    rw [Nat.zero_add, hown.cellAt (j * 4) (by omega), hown.cellAt (j * 4 + 1) (by omega), hown.cellAt (j * 4 + 2) (by omega), hown.cellAt (j * 4 + 3) (by omega), List.getD_eq_getElem?_getD, List.getElem?_eq_getElem hj]
    exact ⟨f0, f1, f2, f3⟩
theorem row_form {w : World} {base e size : Nat} {v : Value} {n : Nat} {xs : List Value} (h : w.ownsRow base e size v n xs) : ∃ ao cap, v = .slice ao n cap ∧ n ≤ cap ∧ cap ≤ 9223372036854775807 := by
  rcases h.2 with ⟨rfl, h0⟩ | ⟨g, cap, cur, rfl, hb, hh, h3, h4, _⟩
  · exact ⟨none, 0, by rw [h0], by omega, by omega⟩
  · exact ⟨_, cap, rfl, h3, by unfold maxLen at h4; omega⟩
theorem GOwn.gat {B b : Nat} {w : World} {hor : Int} {vL vE : Value} {lives : List (Int × Int)} {L : List (Ed × Value)} (h : GOwn B b w hor vL vE lives L) :
    ∃ la lc ea ec, vL = .slice la lives.length lc ∧ vE = .slice ea L.length ec ∧ GAt w la ea ⟨hor, lives, L.map (·.1)⟩ ∧ lives.length ≤ lc ∧ lc ≤ 9223372036854775807 := by
  obtain ⟨la, lc, rfl, hlv⟩ := ivAt_of_owns h.lv
  obtain ⟨_, _, e1, n1, n2⟩ := row_form h.lv
  simp only [Value.slice.injEq] at e1
  obtain ⟨rfl, _, rfl⟩ := e1
  obtain ⟨ea, ec, rfl, n3, n4⟩ := row_form h.ed
  refine ⟨la, lc, ea, ec, rfl, rfl, ⟨hlv, ?_, by simp only; omega, by simp only [List.length_map]; omega⟩, n1, n2⟩
  rcases h.ed.2 with ⟨_, h0⟩ | ⟨g, cap, cur, e2, hb, hh, _⟩
  · exact .inl (by simp only; rw [List.eq_nil_of_length_eq_zero h0]; rfl)
  · simp only [Value.slice.injEq] at e2
    obtain ⟨rfl, _, rfl⟩ := e2
    refine .inr ⟨g, 0, rfl, (Array.getElem?_eq_some_iff.1 hh).1, fun j hj => ?_⟩
    have hj' : j < L.length := by simpa using hj
    obtain ⟨f0, f1, f2⟩ := encE_get L j hj'
    obtain ⟨a, c, hv, hl, m1, m2⟩ := lgAt_of_owns (h.lg L[j] (List.getElem_mem hj'))
    have ej : (L.map (·.1))[j] = L[j].1 := by simp
    unfold EdOne
    simp only [ej]
    rw [Nat.zero_add, h.ed.cellAt (j * 3) (by omega), h.ed.cellAt (j * 3 + 1) (by omega), h.ed.cellAt (j * 3 + 2) (by omega)]
    exact ⟨f0, f1, a, c, by rw [f2, hv], hl, m1, m2⟩

end Go.Proofs.YtjjhhmlogddnkaiDoor

namespace Go.Proofs.YtjjhhmlogddnkaiDoor
open Go.RowKit

/-- what is told of a word -/
def nmV (o : Option Int) : Value := .tuple #[.int .i64 (o.getD 0), .bool o.isSome]

theorem nm_none {l : List UInt8} (h : ¬ (1 ≤ l.length ∧ l.length ≤ 4 ∧ ¬ (l.head? = some 48 ∧ 1 < l.length) ∧ ∀ b ∈ l, dgB b = true)) : nm l = none := by
  unfold nm; rw [if_neg (fun k => h ((nmB_iff l).1 k))]
theorem nm_is {l : List UInt8} (h : 1 ≤ l.length ∧ l.length ≤ 4 ∧ ¬ (l.head? = some 48 ∧ 1 < l.length) ∧ ∀ b ∈ l, dgB b = true) : nm l = some ((nv 0 l : Nat) : Int) := by
  unfold nm; rw [if_pos ((nmB_iff l).2 h)]
theorem bdl (s : ByteArray) : s.toList = s.data.toList := ByteArray.toList_eq s
theorem nv_take (l : List UInt8) (k : Nat) (h : k < l.length) : nv 0 (l.take (k + 1)) = 10 * nv 0 (l.take k) + (l[k].toNat - 48) := by
  rw [List.take_succ_eq_append_getElem h, nv_snoc]
theorem all_take (l : List UInt8) (k : Nat) (h : k < l.length) (hk : ∀ b ∈ l.take k, dgB b = true) (hb : dgB l[k] = true) : ∀ b ∈ l.take (k + 1), dgB b = true := by
  intro b hb'
  rw [List.take_succ_eq_append_getElem h] at hb'
  rcases List.mem_append.1 hb' with q | q
  · exact hk b q
  · rw [List.mem_singleton.1 q]; exact hb

theorem byte_at (s : ByteArray) (k : Nat) (h : k < s.size) (h' : k < s.data.toList.length) : s.data.toList[k] = s[k]'h := by simp [ByteArray.getElem_eq_getElem_data]
theorem byte_in (s : ByteArray) (k : Nat) (h : k < s.size) : s[k] ∈ s.data.toList := by
  have h' : k < s.data.toList.length := by rw [Array.length_toList]; exact h
  rw [← byte_at s k h h']; exact List.getElem_mem h'
theorem nvs (s : ByteArray) (k : Nat) (h : k < s.size) : nv 0 (s.data.toList.take (k + 1)) = 10 * nv 0 (s.data.toList.take k) + (s[k].toNat - 48) := by
  have h' : k < s.data.toList.length := by rw [Array.length_toList]; exact h
  rw [nv_take _ k h', byte_at s k h h']
theorem alls (s : ByteArray) (k : Nat) (h : k < s.size) (hk : ∀ b ∈ s.data.toList.take k, dgB b = true) (hb : dgB s[k] = true) : ∀ b ∈ s.data.toList.take (k + 1), dgB b = true := by
  have h' : k < s.data.toList.length := by rw [Array.length_toList]; exact h
  exact all_take _ k h' hk (by rw [byte_at s k h h']; exact hb)

set_option maxHeartbeats 1000000 in
set_option maxRecDepth 100000 in
theorem number_any (s : ByteArray) (w : World) : Calls Tryd.prog 50 #[.string s] w fun e w' => e = .returned (nmV (nm s.data.toList)) ∧ w' = w := by
  have hsz : s.data.toList.length = s.size := by rw [Array.length_toList]; rfl
  by_cases h0 : s.size = 0
  · have hE : s.toList = [] := by rw [bdl]; exact List.eq_nil_of_length_eq_zero (by omega)
    have HN := hideg (nm_none (l := s.data.toList) (fun k => by omega))
    clear h0
    go_enter Tryd.func50, Tryd.ntmps50
    go_wp2
    rw [HN.out]
    go_ret2
    exact ⟨rfl, rfl⟩
  have hne : s.toList.isEmpty = false := by
    rw [bdl]; cases hl : s.data.toList with
    | nil => rw [hl] at hsz; simp at hsz; omega
    | cons _ _ => rfl
  have hne2 : ¬ s.toList = [] := fun k => by rw [k] at hne; simp at hne
  by_cases h4 : 4 < s.size
  · have HN := hideg (nm_none (l := s.data.toList) (fun k => by omega))
    have h4' : (4 : Int) < (s.size : Int) := by omega
    clear hsz
    go_enter Tryd.func50, Tryd.ntmps50
    go_wp2
    rw [HN.out]
    go_ret2
    exact ⟨rfl, rfl⟩
  have h4' : (s.size : Int) ≤ 4 := by omega
  have hp : 0 < s.size := by omega
  have H0 : Hid (s.data.toList.head? = some (s[0]'hp)) := by
    show _ = _
    rw [List.head?_eq_getElem?, List.getElem?_eq_getElem (by rw [hsz]; exact hp)]; rfl
  have H1 : Hid (s.toList = s.data.toList) := bdl s
  by_cases hz : s.data.toList.head? = some 48 ∧ 1 < s.data.toList.length
  · have HN := hideg (nm_none (l := s.data.toList) (fun k => k.2.2.1 hz))
    have e0 : s[0] = 48 := by have := H0.out; rw [hz.1] at this; exact (Option.some.inj this).symm
    have e1 : (s.toList == [48]) = false := by
      have : ¬ s.toList = [48] := fun k => by rw [H1.out] at k; rw [k] at hz; simp at hz
      simpa using this
    clear hz hsz
    go_enter Tryd.func50, Tryd.ntmps50
    go_wp2
    · rw [HN.out]
      go_ret2
      exact ⟨rfl, rfl⟩
  · have hd : (s[0] = 48 ∧ (s.toList == [48]) = true) ∨ ¬ (s[0].toNat : Int) = 48 := by
      by_cases e : s[0] = 48
      · refine .inl ⟨e, ?_⟩
        have h1 : s.data.toList.length ≤ 1 := by
          rcases Nat.lt_or_ge 1 s.data.toList.length with k | k
          · exact absurd ⟨by rw [H0.out, e], k⟩ hz
          · exact k
        rw [H1.out]
        cases hl : s.data.toList with
        | nil => rw [hl] at hsz; simp at hsz; omega
        | cons a t =>
          have h2 := H0.out
          rw [hl, List.head?_cons, e] at h2
          rw [hl] at h1
          have : t = [] := List.eq_nil_of_length_eq_zero (by rw [List.length_cons] at h1; omega)
          rw [this, Option.some.inj h2]; rfl
      · exact .inr fun k => e (UInt8.toNat_inj.1 (by have : (48 : UInt8).toNat = 48 := rfl; omega))
    have HZ := hideg hz
    have HSZ := hideg hsz
    clear hz hsz
    rcases hd with ⟨e0, e1⟩ | e0
    all_goals
      go_enter Tryd.func50, Tryd.ntmps50
      go_wp2
      go_loopw [4, 24] (fun n i wr => ∃ k : Nat, k ≤ s.size ∧ i = .int .i64 k ∧ n = .int .i64 (nv 0 (s.data.toList.take k) : Nat) ∧ (∀ b ∈ s.data.toList.take k, dgB b = true) ∧ wr = w) (fun _ i _ => s.size - (intOf i).toNat)
      case atStart => exact ⟨0, Nat.zero_le _, rfl, rfl, by simp, rfl⟩
      case round =>
        obtain ⟨k, hk, rfl, rfl, hall, rfl⟩ := hrel
        clear e0
        have HA := hideg hall
        clear hall
        by_cases hlt : k < s.size
        · have HV := hideg (nvs s k hlt)
          have HV2 := hideg (nv_bd _ HA.out (by simp; omega))
          by_cases hg : dgB s[k] = true
          · have hg2 := (dgB_iff _).1 hg
            have g1 : (48 : Int) ≤ (s[k].toNat : Int) := by omega
            have g2 : (s[k].toNat : Int) ≤ 57 := by omega
            have g3 : IntKind.u8.wrap ((s[k].toNat : Int) - 48) = (s[k].toNat : Int) - 48 := by unfold IntKind.wrap; simp [IntKind.bits, IntKind.signed]; omega
            have HA2 := hideg (alls s k hlt HA.out hg)
            have g4 : IntKind.i64.wrap (10 * ((nv 0 (s.data.toList.take k) : Nat) : Int)) = 10 * ((nv 0 (s.data.toList.take k) : Nat) : Int) := wrap_small _ (by omega) (by have := HV2.out; omega)
            have g5 : IntKind.i64.wrap (10 * ((nv 0 (s.data.toList.take k) : Nat) : Int) + ((s[k].toNat : Int) - 48)) = 10 * ((nv 0 (s.data.toList.take k) : Nat) : Int) + ((s[k].toNat : Int) - 48) := wrap_small _ (by omega) (by have := HV2.out; omega)
            clear hg
            go_wp2
            go_roundw
            case rel => exact ⟨k + 1, by omega, by go_num, by rw [HV.out]; congr 1; omega, HA2.out, trivial⟩
            case measure => simp [intOf]; omega
          · have HN := hideg (nm_none (l := s.data.toList) (fun q => hg (q.2.2.2 _ (byte_in s k hlt))))
            have hg2 : ¬ (48 ≤ s[k].toNat ∧ s[k].toNat ≤ 57) := fun q => hg ((dgB_iff _).2 q)
            clear hg
            go_wp2
            all_goals first
              | (exfalso; omega)
              | (rw [HN.out]; go_ret2; exact ⟨rfl, rfl⟩)
        · have hke : k = s.size := by omega
          subst hke
          have ht : s.data.toList.take s.size = s.data.toList := List.take_of_length_le (by rw [HSZ.out]; exact Nat.le_refl _)
          rw [ht] at HA ⊢
          have HN := hideg (nm_is (l := s.data.toList) ⟨by rw [HSZ.out]; omega, by rw [HSZ.out]; omega, HZ.out, HA.out⟩)
          clear ht
          go_wp2
          rw [HN.out]
          go_ret2
          exact ⟨rfl, rfl⟩

/-- words lie at ao -/
def WdAt (w : World) (ao : Option Addr) (ws : List ByteArray) : Prop :=
  ws = [] ∨ ∃ b off, ao = some ⟨b, off, none⟩ ∧ b < w.heap.size ∧ ∀ j (h : j < ws.length), w.cell? ⟨b, off + j, none⟩ = some (.string ws[j])
theorem WdAt.below {w w' : World} {ao : Option Addr} {m : List ByteArray} (h : WdAt w ao m) (hb : Below w.heap.size w w') : WdAt w' ao m := by
  rcases h with h | ⟨b, off, rfl, hlt, hc⟩
  · exact .inl h
  · exact .inr ⟨b, off, rfl, Nat.lt_of_lt_of_le hlt hb.size, fun j hj => by rw [hb.cell (p := ⟨b, off + j, none⟩) hlt]; exact hc j hj⟩

theorem nms_app_none : ∀ {a : List (List UInt8)} (b : List (List UInt8)), nms a = none → nms (a ++ b) = none
  | [], b, h => by simp [nms] at h
  | w :: a, b, h => by
    rw [List.cons_append, nms]
    rw [nms] at h
    cases e : nm w with
    | none => rfl
    | some n =>
      rw [e] at h
      cases e2 : nms a with
      | none => simp only [nms_app_none b e2]
      | some l => rw [e2] at h; simp at h
theorem nms_snoc_none : ∀ {a : List (List UInt8)} {w : List UInt8}, nm w = none → nms (a ++ [w]) = none
  | [], w, h => by simp [nms, h]
  | x :: a, w, h => by
    rw [List.cons_append, nms, nms_snoc_none h]
    cases nm x <;> rfl
theorem nms_snoc : ∀ {a : List (List UInt8)} {w : List UInt8} {l : List Int} {n : Int}, nms a = some l → nm w = some n → nms (a ++ [w]) = some (l ++ [n])
  | [], w, l, n, h, hn => by simp [nms] at h; subst h; simp [nms, hn]
  | x :: a, w, l, n, h, hn => by
    rw [nms] at h
    rw [List.cons_append, nms]
    cases e : nm x with
    | none => rw [e] at h; simp at h
    | some m =>
      rw [e] at h
      cases e2 : nms a with
      | none => rw [e2] at h; simp at h
      | some l' =>
        rw [e2] at h
        simp only [Option.some.injEq] at h
        subst h
        simp only [nms_snoc e2 hn, List.cons_append]
theorem nms_length : ∀ {a : List (List UInt8)} {l : List Int}, nms a = some l → l.length = a.length
  | [], l, h => by simp [nms] at h; subst h; rfl
  | x :: a, l, h => by
    rw [nms] at h
    cases e : nm x with
    | none => rw [e] at h; simp at h
    | some m =>
      rw [e] at h
      cases e2 : nms a with
      | none => rw [e2] at h; simp at h
      | some l' =>
        rw [e2] at h
        simp only [Option.some.injEq] at h
        subst h
        simp [nms_length e2]
/-- the numbers of words -/
def nmw (ws : List ByteArray) : Option (List Int) := nms (ws.map fun s => s.data.toList)
theorem nmw_succ {ws : List ByteArray} {k : Nat} (h : k < ws.length) : (∀ l n, nmw (ws.take k) = some l → nm ws[k].data.toList = some n → nmw (ws.take (k + 1)) = some (l ++ [n])) ∧ (nm ws[k].data.toList = none → nmw ws = none) := by
  refine ⟨fun l n h1 h2 => ?_, fun h2 => ?_⟩
  · unfold nmw
    rw [List.take_succ_eq_append_getElem h, List.map_append]
    exact nms_snoc h1 h2
  · unfold nmw
    have e : ws = ws.take (k + 1) ++ ws.drop (k + 1) := (List.take_append_drop _ _).symm
    have e2 : ws.map (fun s => s.data.toList) = (ws.take k).map (fun s => s.data.toList) ++ [ws[k].data.toList] ++ (ws.drop (k + 1)).map (fun s => s.data.toList) := by
      conv => lhs; rw [e]
      rw [List.map_append, List.take_succ_eq_append_getElem h, List.map_append]; rfl
    rw [e2]
    exact nms_app_none _ (nms_snoc_none h2)

set_option maxHeartbeats 2000000 in
set_option maxRecDepth 100000 in
theorem numbers_any (ao : Option Addr) (cap : Nat) (ws : List ByteArray) (w : World) (hW : WdAt w ao ws) (hn : ws.length ≤ 100000) :
    Calls Tryd.prog 42 #[.slice ao ws.length cap] w fun e w' => ∃ v, e = .returned (.tuple #[v, .bool (nmw ws).isSome]) ∧ w'.ownsRow w.heap.size 3 1 v ((nmw ws).getD []).length (((nmw ws).getD []).map (Value.int .i64)) ∧ Below w.heap.size w w' := by
  obtain ⟨i0, hi, hz0, hz1, hz2⟩ := info_parts Tryd.infoInt
  go_enter Tryd.func42, Tryd.ntmps42
  go_wp2
  go_loopw [4, 11] (fun v i wr => ∃ (k : Nat) (l : List Int), k ≤ ws.length ∧ i = .int .i64 k ∧ nmw (ws.take k) = some l ∧ l.length = k ∧ wr.ownsRow w.heap.size 3 1 v k (l.map (Value.int .i64)) ∧ Below w.heap.size w wr) (fun _ i _ => ws.length - (intOf i).toNat)
  case atStart => exact ⟨0, [], Nat.zero_le _, rfl, rfl, rfl, World.ownsRow_nil _ _ _ _, Below.refl _ _⟩
  case round =>
    obtain ⟨k, l, hk, rfl, hl, hll, hown, hb⟩ := hrel
    have HL := hideg hl
    have HLL := hideg hll
    have hsz := hb.size
    clear hl hll
    by_cases hlt : k < ws.length
    · rcases hW with h0 | ⟨b, off, rfl, hbl, hc⟩
      · subst h0; simp at hlt
      have c0 := (hb.cell (p := ⟨b, off + k, none⟩) hbl).trans (hc k hlt)
      have HS := hideg (nmw_succ hlt)
      have hx : Hid (∀ W, Calls Tryd.prog 50 #[.string ws[k]] W fun e w' => e = .returned (nmV (nm ws[k].data.toList)) ∧ w' = W) := fun W => number_any _ W
      have i1 : (k : Int) < (ws.length : Int) := by omega
      have i2 : (0 : Int) ≤ (k : Int) := by omega
      generalize ws[k] = s at *
      cases hm : nm s.data.toList with
      | none =>
        have HN := hideg (HS.out.2 hm)
        simp only [hm] at hx
        go_wp2_with (go_at_call 50; refine (hx.out _).mono ?_; rintro e w1 ⟨rfl, rfl⟩; simp only [nmV, Option.getD_none, Option.isSome_none])
        rw [HN.out]
        go_ret2
        exact ⟨_, rfl, World.ownsRow_nil _ _ _ _, hb⟩
      | some n =>
        have HN := hideg (HS.out.1 l n HL.out hm)
        simp only [hm] at hx
        go_wp2_with fail
        refine (hx.out _).mono ?_
        rintro e w1 ⟨rfl, rfl⟩
        simp only [nmV, Option.getD_some, Option.isSome_some]
        clear c0 hc hm
        go_wp2_with (at_builtin; refine wpList_append_lies _ rfl _ _ 32 rfl w.heap.size 3 i0 (.int .i64 0) 1 8 Tryd.underlying32 hi hz0 hz1 hz2 rfl (by decide) _ _ _ rfl (World.ownsRow.alloc (w := w1) hown _) ⟨w1.heap.size, 0, none⟩ 1 1 [.int .i64 n] rfl rfl ?c1 ?c2 (by decide) ?c3 ?c4 ?c5 (w1.heap.size + 1) ?c6 ?_)
        case c1 => exact World.news_of_block (cs := #[.int .i64 n]) (t := 3) (fr := (0, 0)) (heap_alloc_new w1 _)
        case c2 => intro u hu; simp at hu; subst hu; rfl
        case c3 => unfold maxLen; omega
        case c4 => omega
        case c5 => simp; omega
        case c6 => simp
        intro gg cap1 w2 hown2 hgrow hat hltg
        have HO2 := hideg hown2
        have HB2 := hideg ((hb.alloc hsz (.cells #[.int .i64 n] 3)).grown hgrow (by simp; omega) (fun j hj => (hown.lt j hj).1))
        clear hown hown2 hgrow hat hltg
        go_wp2
        go_roundw
        case rel => exact ⟨k + 1, l ++ [n], by omega, by go_num, HN.out, by simp [HLL.out], by rw [List.map_append]; exact HO2.out, HB2.out⟩
        case measure => simp [intOf]; omega
    · have hke : k = ws.length := by omega
      subst hke
      rw [List.take_length] at HL
      go_wp2
      rw [HL.out]
      go_ret2
      exact ⟨_, rfl, by simpa [HLL.out] using hown, hb⟩

end Go.Proofs.YtjjhhmlogddnkaiDoor

namespace Go.Proofs.YtjjhhmlogddnkaiDoor
open Go

/-- each operation waits for earlier ones alone, and none is guarded -/
def fwdB (ops : Array Oper) : Bool := (List.range ops.size).all fun j => match ops[j]? with
  | some o => o.guard.isNone && o.after.all fun e => !Region.binds .any e || decide (e.on < j)
  | none => true
/-- the last one waits for each of the others, itself or by way of another one -/
def lastB (ops : Array Oper) (st : Oper) : Bool := st.guard.isNone && (st.after.all (fun e => !Region.binds .any e || decide (e.on < ops.size)) && (List.range ops.size).all fun j =>
  st.after.any (fun e => Region.binds .any e && e.on == j) || (List.range ops.size).any fun k => decide (j < k) && match ops[k]? with
    | some o => o.after.any fun e => Region.binds .any e && e.on == j
    | none => false)

theorem fwd_spec {ops : Array Oper} (h : fwdB ops = true) {j : Nat} {o : Oper} (hj : ops[j]? = some o) : o.guard = none ∧ ∀ e ∈ o.after, Region.binds .any e = true → e.on < j := by
  have hlt : j < ops.size := (Array.getElem?_eq_some_iff.1 hj).1
  have := List.all_eq_true.1 h j (List.mem_range.2 hlt)
  simp only [hj, Bool.and_eq_true, Option.isNone_iff_eq_none, Array.all_eq_true_iff_forall_mem] at this
  refine ⟨this.1, fun e he hb => ?_⟩
  have h2 := this.2 e he
  rw [hb] at h2
  simpa using h2

/-- what is listed has all that it waits for listed -/
def Closed (ops : Array Oper) (listed : Array Bool) : Prop := ∀ (j : Nat) (o : Oper), ops[j]? = some o → listed.getD j true = true → ∀ e ∈ o.after, Region.binds .any e = true → listed.getD e.on false = true

theorem all_listed {ops : Array Oper} {listed : Array Bool} (hf : fwdB ops = true) (hsz : listed.size = ops.size) (hr : Region.ready .any ops listed = []) : ∀ j, j < ops.size → listed.getD j false = true := by
  intro j
  induction j using Nat.strongRecOn with
  | _ j ih =>
    intro hj
    have ho : ops[j]? = some ops[j] := Array.getElem?_eq_getElem hj
    cases hl : listed.getD j false with
    | true => rfl
    | false =>
      have hm : j ∈ Region.ready .any ops listed := by
        rw [mem_ready]
        have hj' : j < listed.size := by omega
        refine ⟨by simpa [hj'] using hl, _, ho, fun e he hb => ?_⟩
        have := (fwd_spec hf ho).2 e he hb
        exact ih e.on this (by omega)
      rw [hr] at hm
      cases hm

theorem arr_any {α : Type} {l : Array α} {p : α → Bool} (h : l.any p = true) : ∃ e ∈ l, p e = true := by
  rw [← Array.any_toList] at h
  obtain ⟨e, he, h2⟩ := List.any_eq_true.1 h
  exact ⟨e, by simpa using he, h2⟩

theorem last_waits {ops : Array Oper} {st : Oper} {listed : Array Bool} (hl : lastB ops st = true) (hc : Closed ops listed) (hsz : listed.size = ops.size) (hs : ∀ e ∈ st.after, Region.binds .any e = true → e.on < ops.size → listed.getD e.on false = true) : ∀ d j, j + d = ops.size → j < ops.size → listed.getD j false = true := by
  simp only [lastB, Bool.and_eq_true] at hl
  intro d
  induction d using Nat.strongRecOn with
  | _ d ih =>
    intro j hd hj
    have h1 := List.all_eq_true.1 hl.2.2 j (List.mem_range.2 hj)
    rw [Bool.or_eq_true] at h1
    rcases h1 with h1 | h1
    · obtain ⟨e, he, h2⟩ := arr_any h1
      rw [Bool.and_eq_true, beq_iff_eq] at h2
      rw [← h2.2]
      exact hs e he h2.1 (by rw [h2.2]; exact hj)
    · obtain ⟨k, hk, h2⟩ := List.any_eq_true.1 h1
      rw [List.mem_range] at hk
      rw [Bool.and_eq_true, decide_eq_true_eq] at h2
      have ho : ops[k]? = some ops[k] := Array.getElem?_eq_getElem hk
      simp only [ho] at h2
      obtain ⟨e, he, h3⟩ := arr_any h2.2
      rw [Bool.and_eq_true, beq_iff_eq] at h3
      have hkl := ih (d - (k - j)) (by omega) k (by omega) hk
      rw [← h3.2]
      refine hc k _ ho ?_ e he h3.1
      have hk' : k < listed.size := by omega
      simpa [hk'] using hkl

theorem getD_push {l : Array Bool} {j : Nat} (d : Bool) (h : j < l.size) : (l.push false).getD j d = l.getD j d := by
  have h' : j < (l.push false).size := by simp; omega
  unfold Array.getD
  rw [dif_pos h', dif_pos h]
  exact Array.getElem_push_lt h

theorem getElem_pushO {ops : Array Oper} {st : Oper} {j : Nat} (h : j < ops.size) : (ops.push st)[j]? = ops[j]? := by
  rw [Array.getElem?_push, if_neg (by omega)]

theorem ready_push {ops : Array Oper} {st : Oper} {listed : Array Bool} (hf : fwdB ops = true) (hl : lastB ops st = true) (hc : Closed ops listed) (hsz : listed.size = ops.size) (hne : Region.ready .any ops listed ≠ []) (i : Nat) :
    i ∈ Region.ready .any (ops.push st) (listed.push false) ↔ i ∈ Region.ready .any ops listed := by
  rw [mem_ready, mem_ready]
  rcases Nat.lt_trichotomy i ops.size with hi | hi | hi
  · rw [getD_push true (by omega), getElem_pushO hi]
    refine and_congr_right fun _ => exists_congr fun o => and_congr_right fun ho => forall_congr' fun e => forall_congr' fun he => forall_congr' fun hb => ?_
    have := (fwd_spec hf ho).2 e he hb
    rw [getD_push false (by omega)]
  · subst hi
    constructor
    · rintro ⟨_, o, ho, hall⟩
      have ho' : o = st := by
        rw [Array.getElem?_push, if_pos rfl] at ho
        exact (Option.some.inj ho).symm
      subst ho'
      exfalso
      apply hne
      have hall2 := last_waits hl hc hsz (fun e he hb hlt => by have := hall e he hb; rwa [getD_push false (by omega)] at this)
      apply List.eq_nil_iff_forall_not_mem.2
      intro j hj
      rw [mem_ready] at hj
      obtain ⟨h0, o, hoj, _⟩ := hj
      have hjlt : j < ops.size := (Array.getElem?_eq_some_iff.1 hoj).1
      have h1 := hall2 (ops.size - j) j (by omega) hjlt
      have hj' : j < listed.size := by omega
      simp [hj'] at h0 h1
      rw [h0] at h1
      cases h1
    · rintro ⟨_, o, ho, _⟩
      rw [Array.getElem?_eq_none (Nat.le_refl _)] at ho
      cases ho
  · constructor
    · rintro ⟨_, o, ho, _⟩
      rw [Array.getElem?_eq_none (by simp; omega)] at ho
      cases ho
    · rintro ⟨_, o, ho, _⟩
      rw [Array.getElem?_eq_none (by omega)] at ho
      cases ho

theorem ready_last {ops : Array Oper} {st : Oper} {listed : Array Bool} (hl : lastB ops st = true) (hsz : listed.size = ops.size) (hall : ∀ j, j < ops.size → listed.getD j false = true) (i : Nat) :
    i ∈ Region.ready .any (ops.push st) (listed.push false) ↔ i = ops.size := by
  rw [mem_ready]
  simp only [lastB, Bool.and_eq_true] at hl
  rcases Nat.lt_trichotomy i ops.size with hi | hi | hi
  · have h1 := hall i hi
    have hi' : i < listed.size := by omega
    constructor
    · rintro ⟨h0, _⟩
      rw [getD_push true hi'] at h0
      simp [hi'] at h0 h1
      rw [h0] at h1
      cases h1
    · intro h; omega
  · subst hi
    refine ⟨fun _ => rfl, fun _ => ⟨by simp [← hsz], st, by rw [Array.getElem?_push, if_pos rfl], fun e he hb => ?_⟩⟩
    have h2 := Array.all_eq_true_iff_forall_mem.1 hl.2.1 e he
    rw [hb] at h2
    have h3 : e.on < ops.size := by simpa using h2
    rw [getD_push false (by omega)]
    exact hall e.on h3
  · constructor
    · rintro ⟨_, o, ho, _⟩
      rw [Array.getElem?_eq_none (by simp; omega)] at ho
      cases ho
    · intro h; omega

theorem ready_done {ops : Array Oper} {st : Oper} {listed : Array Bool} (hsz : listed.size = ops.size) (hall : ∀ j, j < ops.size → listed.getD j false = true) : Region.ready .any (ops.push st) ((listed.push false).setIfInBounds ops.size true) = [] := by
  apply List.eq_nil_iff_forall_not_mem.2
  intro j hj
  rw [mem_ready] at hj
  obtain ⟨h0, o, hoj, _⟩ := hj
  have hjlt : j < ops.size + 1 := by simpa using (Array.getElem?_eq_some_iff.1 hoj).1
  by_cases e : j = ops.size
  · subst e
    simp [hsz] at h0
  · have hj' : j < listed.size := by omega
    have h1 := hall j (by omega)
    have h2 : ((listed.push false).setIfInBounds ops.size true).getD j true = (listed.push false).getD j true := by
      exact getD_set_ne true (Ne.symm e)
    rw [h2, getD_push true hj'] at h0
    simp [hj'] at h0 h1
    rw [h0] at h1
    cases h1

/-- the post of the others: the last one goes behind them -/
def BackQ (P : Program) (st : Oper) (Q : Exit → Act → World → Prop) : Exit → Act → World → Prop
  | .normal, a, w => st.wp P a w (fun a' w' => Q .normal a' w') Q
  | e, a, w => Q e a w

theorem wp_back {P : Program} {o st : Oper} {Q : Exit → Act → World → Prop} {K K' : Act → World → Prop} {a : Act} {w : World} (hK : ∀ a w, K a w → K' a w) (h : o.wp P a w K (BackQ P st Q)) : o.wp P a w K' Q := by
  unfold Oper.wp at *
  generalize (execOp a.eval o).run P w = r at *
  cases r with
  | ok n w' =>
    cases n <;> simp only [Oper.upon] at h ⊢ <;>
      first
        | exact hK _ _ h
        | exact Calls.mono h (fun e w'' he => by cases e <;> first | exact hK _ _ he | exact he)
        | exact Rows.mono h (fun _ _ he => hK _ _ he)
  | halt x w' => cases x <;> simp only [Oper.upon] at h ⊢ <;> exact h

theorem pop_sound {P : Program} {ops : Array Oper} {st : Oper} {Q : Exit → Act → World → Prop} (hf : fwdB ops = true) (hl : lastB ops st = true) : ∀ (fuel : Nat) (listed : Array Bool) (a : Act) (w : World), listed.size = ops.size → Closed ops listed →
    wpAny P .any ops (BackQ P st Q) fuel listed a w → wpAny P .any (ops.push st) Q (fuel + 1) (listed.push false) a w := by
  have hgd : st.guard = none := by
    simp only [lastB, Bool.and_eq_true, Option.isNone_iff_eq_none] at hl
    exact hl.1
  have fin : ∀ (fuel : Nat) (listed : Array Bool) (a : Act) (w : World), listed.size = ops.size → Region.ready .any ops listed = [] → BackQ P st Q .normal a w → wpAny P .any (ops.push st) Q (fuel + 1) (listed.push false) a w := by
    intro fuel listed a w hsz hr hq
    have hall := all_listed hf hsz hr
    refine ⟨fun h => ?_, fun i hi => ?_⟩
    · have := (ready_last (st := st) hl hsz hall ops.size).2 rfl
      rw [h] at this
      cases this
    · rw [ready_last hl hsz hall] at hi
      subst hi
      have ho : (ops.push st)[ops.size]? = some st := by rw [Array.getElem?_push, if_pos rfl]
      unfold wpOp
      simp only [ho, Region.wanted, hgd, if_true]
      refine .inl (Oper.wp_mono (fun a' w' h => ?_) hq)
      have hd := ready_done (st := st) hsz hall
      cases fuel with
      | zero => exact ⟨hd, h⟩
      | succ n => exact ⟨fun _ => h, by rw [hd]; simp⟩
  intro fuel
  induction fuel with
  | zero =>
    intro listed a w hsz hc h
    exact fin 0 listed a w hsz h.1 h.2
  | succ fuel ih =>
    intro listed a w hsz hc h
    by_cases hr : Region.ready .any ops listed = []
    · exact fin (fuel + 1) listed a w hsz hr (h.1 hr)
    · refine ⟨fun h0 => ?_, fun i hi => ?_⟩
      · exfalso
        apply hr
        apply List.eq_nil_iff_forall_not_mem.2
        intro j hj
        have := (ready_push hf hl hc hsz hr j).2 hj
        rw [h0] at this
        cases this
      · have hi' := (ready_push hf hl hc hsz hr i).1 hi
        have h1 := h.2 i hi'
        obtain ⟨hun, o, ho, hdep⟩ := mem_ready.1 hi'
        have hilt : i < ops.size := (Array.getElem?_eq_some_iff.1 ho).1
        have ho' : (ops.push st)[i]? = some o := by rw [getElem_pushO hilt]; exact ho
        have hg := (fwd_spec hf ho).1
        have eset : (listed.push false).setIfInBounds i true = (listed.setIfInBounds i true).push false := by
          apply Array.ext_getElem?
          intro k
          rw [Array.getElem?_setIfInBounds, Array.getElem?_push, Array.getElem?_push, Array.getElem?_setIfInBounds]
          have hil : i < listed.size := by omega
          by_cases h3 : i = k
          · subst h3
            simp [hil, Nat.ne_of_lt hil]
            omega
          · simp [h3]
        have hc' : Closed ops (listed.setIfInBounds i true) := by
          intro j oj hoj hlj e he hb
          by_cases hij : i = j
          · subst hij
            rw [ho] at hoj
            cases hoj
            exact getD_set_true (hdep e he hb)
          · rw [getD_set_ne true hij] at hlj
            exact getD_set_true (hc j oj hoj hlj e he hb)
        unfold wpOp at h1 ⊢
        simp only [ho, ho', Region.wanted, hg, if_true] at h1 ⊢
        rw [eset]
        refine h1.imp (fun hh => wp_back (fun a' w' hk => ih _ a' w' (by simpa using hsz) hc' hk) hh) (fun hh => ⟨hh.1, hh.2⟩)

/-- the beginning -/
theorem wp_region_pop {P : Program} {id : Nat} {ops : Array Oper} {st : Oper} {Q : Exit → Act → World → Prop} {S : World → Prop} {a : Act} {w : World} (hm : P.follows .mixedOrders = true) (hf : fwdB ops = true) (hl : lastB ops st = true) (hS : S w.drew)
    (h : S w.drew → wpAnyH P .any ops (BackQ P st Q) S ops.size (Array.replicate ops.size false) a w.drew) : (Code.region id (ops.push st) true).wp P Q a w := by
  refine wp_region_any hm ?_
  have h1 := wpAny_of_held _ _ _ _ (h hS)
  have h2 := pop_sound hf hl ops.size _ a w.drew (by simp) (by
    intro j o hj hlj
    have : j < ops.size := (Array.getElem?_eq_some_iff.1 hj).1
    simp [this] at hlj) h1
  have e1 : (Array.replicate ops.size false).push false = Array.replicate (ops.push st).size false := by
    apply Array.ext
    · simp
    · intro k h1 h2
      simp [Array.getElem_push]
  rw [e1] at h2
  have e2 : (ops.push st).size = ops.size + 1 := by simp
  rw [e2] at h2 ⊢
  exact h2

/-- a value that is there in every world that meets the condition is taken first -/
theorem take_lit {P : Program} {l : List Oper} {Q : Exit → Act → World → Prop} {md : Region.Mode} {S : World → Prop} {i : Nat} {oi : Oper} {v : Value} {fuel : Nat} {listed : Array Bool} {a : Act} {w : World} (hi : l[i]? = some oi)
    (hs : Region.noSelect l.toArray = true) (hf : Region.free md l.toArray listed i = true) (hr : (Region.ready md l.toArray listed).contains i = true)
    (hQ : ∀ c a w, Q (.panic c) (a.put oi.dst v) w → Q (.panic c) a w) (hy : YieldsIf P l.toArray S oi v a) (hS : S w)
    (h : wpAnyH P md l.toArray Q S fuel (listed.setIfInBounds i true) (a.put oi.dst v) w) : wpAnyH P md l.toArray Q S (fuel + 1) listed a w :=
  wpAnyH_take (by simpa using hi) hs hf hr hQ hy hS h
/-- the one operation that may come up comes up -/
theorem next_lit {P : Program} {l : List Oper} {Q : Exit → Act → World → Prop} {md : Region.Mode} {S : World → Prop} {i : Nat} {o : Oper} {fuel : Nat} {listed : Array Bool} {a : Act} {w : World} (ho : l[i]? = some o) (hr : Region.ready md l.toArray listed = [i])
    (h : ∀ K' : Act → World → Prop, Shut (∀ a w, S w → (S w → wpAnyH P md l.toArray Q S fuel (listed.setIfInBounds i true) a w) → K' a w) → if Region.wanted o (yielded l.toArray a.tmps) = true then Oper.wp P o a w K' Q else K' (a.put o.dst undef) w) : wpAnyH P md l.toArray Q S (fuel + 1) listed a w :=
  wpAnyH_ready hr (by simp) (AllReadyH.cons (by simpa using ho) h AllReadyH.nil)
/-- .. of a region as it is written out -/
theorem wp_region_back {P : Program} {id : Nat} {full : Array Oper} {Q : Exit → Act → World → Prop} {S : World → Prop} {a : Act} {w : World} (hm : P.follows .mixedOrders = true) (hn : 0 < full.size) (hf : fwdB full.pop = true) (hl : lastB full.pop full.back! = true) (hS : S w.drew)
    (h : S w.drew → wpAnyH P .any full.pop (BackQ P full.back! Q) S full.pop.size (Array.replicate full.pop.size false) a w.drew) : (Code.region id full true).wp P Q a w := by
  have e : full = full.pop.push full.back! := (Array.eq_push_pop_back!_of_size_ne_zero (by omega))
  rw [e]
  exact wp_region_pop hm hf hl hS h
theorem back_last {P : Program} {st : Oper} {Q : Exit → Act → World → Prop} {a : Act} {w : World} (h : ∀ K, Shut (∀ a w, Q .normal a w → K a w) → st.wp P a w K Q) : BackQ P st Q .normal a w :=
  h (fun a w => Q .normal a w) (fun _ _ h => h)

end Go.Proofs.YtjjhhmlogddnkaiDoor

namespace Go.Proofs.YtjjhhmlogddnkaiDoor
open Go.RowKit

/-- the cell that Cut and Split ask -/
structure Ml (B : Nat) (w : World) : Prop where
  low : 0 < B
  cell : ∃ m, w.cell? ⟨0, 0, none⟩ = some (.int .i64 m)
theorem Ml.below {B : Nat} {w w' : World} (h : Ml B w) (hb : Below B w w') : Ml B w' := by
  obtain ⟨m, hm⟩ := h.cell
  exact ⟨h.low, m, by rw [hb.cell (p := ⟨0, 0, none⟩) h.low]; exact hm⟩

/-- no list is longer than N -/
structure Sm (N : Nat) (g : Gr) : Prop where
  lv : g.lives.length ≤ N
  ed : g.edges.length ≤ N
  lg : ∀ e ∈ g.edges, e.2.2.length ≤ N
theorem Sm.mono {N N' : Nat} {g : Gr} (h : Sm N g) (k : N ≤ N') : Sm N' g := ⟨Nat.le_trans h.lv k, Nat.le_trans h.ed k, fun e he => Nat.le_trans (h.lg e he) k⟩
theorem Sm.put {N : Nat} {g g' : Gr} {k : List UInt8} {ns : List Int} (h : Sm N g) (hp : put g k ns = some g') : Sm (N + 1) g' := by
  have h1 := h.lv
  have h2 := h.ed
  unfold Go.Proofs.YtjjhhmlogddnkaiDoor.put at hp
  split at hp
  · split at hp
    · simp only [Option.some.injEq] at hp; subst hp; exact ⟨by simp only; omega, by simp only; omega, fun e he => Nat.le_succ_of_le (h.lg e he)⟩
    · simp at hp
  · split at hp
    · simp only [Option.some.injEq] at hp; subst hp
      exact ⟨by simp; omega, by simp only; omega, fun e he => Nat.le_succ_of_le (h.lg e he)⟩
    · split at hp
      · simp only [Option.some.injEq] at hp; subst hp
        refine ⟨by simp only; omega, by simp; omega, fun e he => ?_⟩
        rcases List.mem_append.1 he with k | k
        · exact Nat.le_succ_of_le (h.lg e k)
        · rw [List.mem_singleton.1 k]; simp
      · simp at hp
  · split at hp
    · rename_i hk
      simp only [Option.some.injEq] at hp; subst hp
      rcases List.eq_nil_or_concat g.edges with e | ⟨es, e, h0⟩
      · exact absurd e hk.2
      · rw [List.concat_eq_append] at h0
        simp only [h0, putLeg_snoc]
        rw [h0] at h2
        refine ⟨by simp only; omega, by simp at h2 ⊢; omega, fun x hx => ?_⟩
        rcases List.mem_append.1 hx with k | k
        · exact Nat.le_succ_of_le (h.lg x (by rw [h0]; simp [k]))
        · rw [List.mem_singleton.1 k]
          have := h.lg e (by rw [h0]; simp)
          simp; omega
    · simp at hp
  · simp at hp
theorem Sm.line {N : Nat} {g g' : Gr} {l : List UInt8} {first : Bool} (h : Sm N g) (hp : lineOf g l first = some g') : Sm (N + 1) g' := by
  obtain ⟨k, t, e⟩ := sp_cons 32 l
  rw [lineOf_eq e] at hp
  obtain ⟨ns, _, _, h3⟩ := lineW_some hp
  exact h.put h3

theorem Split_any (s : ByteArray) (w : World) (hs : s.size ≤ 8192) {B : Nat} (hM : Ml B w) : Calls Tryd.prog 41 #[.string s, .string ⟨#[32]⟩] w fun e w' => ∃ (s0 : ByteArray) (ts : List ByteArray), sp 32 s.data.toList = s0.data.toList :: ts.map (fun s => s.data.toList) ∧ ts.length ≤ 8192 ∧ e = .returned (.slice (some ⟨w.heap.size, 0, none⟩) (ts.length + 1) (ts.length + 1)) ∧ w' = w.alloc (.cells (Value.string s0 :: ts.map Value.string).toArray 9) := by
  obtain ⟨m, hm⟩ := hM.cell
  refine (Tryd.strings_Split s ⟨#[32]⟩ m w (by omega) hm (by decide)).mono ?_
  rintro e w' ⟨rfl, rfl⟩
  have h1 := split_sp 32 s
  have h2 := split_len 32 s
  have h3 := sp_length_le 32 s.data.toList
  have h4 : s.data.toList.length = s.size := by rw [Array.length_toList]; rfl
  generalize Lib.splitB ⟨#[32]⟩ 0 (Lib.countB s ⟨#[32]⟩) s = L at *
  cases L with
  | nil => rw [← h1] at h2; simp at h2
  | cons s0 ts =>
    have e1 : Lib.countB s ⟨#[32]⟩ = ts.length := by rw [← h1] at h2; simpa using h2
    refine ⟨s0, ts, h1.symm, ?_, by rw [e1], rfl⟩
    rw [← h1] at h3
    simp at h3; omega

theorem wd_new (w : World) (s0 : ByteArray) (ts : List ByteArray) : (w.alloc (.cells (Value.string s0 :: ts.map Value.string).toArray 9)).cell? ⟨w.heap.size, 0, none⟩ = some (.string s0) ∧ WdAt (w.alloc (.cells (Value.string s0 :: ts.map Value.string).toArray 9)) (some ⟨w.heap.size, 1, none⟩) ts := by
  refine ⟨by simp, ?_⟩
  refine .inr ⟨w.heap.size, 1, rfl, by simp, fun j hj => ?_⟩
  rw [show 1 + j = j + 1 by omega]
  simp [hj]

theorem k_eq {s : ByteArray} {d : List UInt8} (h : s.data.toList = d) (c : List UInt8) : (s.toList == c) = (d == c) := by rw [bdl, h]
theorem k_ne {s : ByteArray} {c : List UInt8} (h : s.data.toList ≠ c) : (s.toList == c) = false := by rw [bdl]; simpa using h
theorem put_T {g : Gr} {ns : List Int} (h : ns.length ≠ 1) : put g wTime ns = none := by
  unfold put
  split
  · simp at h
  · rw [if_neg (by simp [wTime, wVertex]), if_neg (by decide)]
  · rw [if_neg (by simp [wTime, wLeg])]
  · rfl
theorem put_V {g : Gr} {ns : List Int} (h : ns.length ≠ 2 ∨ g.edges ≠ []) : put g wVertex ns = none := by
  unfold put
  split
  · rw [if_neg (by decide)]
  · rw [if_neg (fun k => by rcases h with h | h; simp at h; exact h k.2), if_neg (by decide)]
  · rw [if_neg (by simp [wVertex, wLeg])]
  · rfl
theorem put_E {g : Gr} {ns : List Int} (h : ns.length ≠ 2) : put g wEdge ns = none := by
  unfold put
  split
  · rw [if_neg (by decide)]
  · simp at h
  · rw [if_neg (by simp [wEdge, wLeg])]
  · rfl
theorem put_L {g : Gr} {ns : List Int} (h : ns.length ≠ 4 ∨ g.edges = []) : put g wLeg ns = none := by
  unfold put
  split
  · rw [if_neg (by decide)]
  · rw [if_neg (by simp [wLeg, wVertex]), if_neg (by decide)]
  · rw [if_neg (fun k => by rcases h with h | h; simp at h; exact k.2 h)]
  · rfl
theorem put_X {g : Gr} {k : List UInt8} {ns : List Int} (h1 : k ≠ wTime) (h2 : k ≠ wVertex) (h3 : k ≠ wEdge) (h4 : k ≠ wLeg) : put g k ns = none := by
  unfold put
  split
  · rw [if_neg h1]
  · rw [if_neg (fun k => h2 k.1), if_neg h3]
  · rw [if_neg (fun k => h4 k.1)]
  · rfl
theorem put_T1 {g : Gr} {a : Int} : put g wTime [a] = some { g with hor := a } := by
  unfold put
  simp only [if_true]
theorem put_V1 {g : Gr} {a b : Int} (h : g.edges = []) : put g wVertex [a, b] = some { g with lives := g.lives ++ [(a, b)] } := by
  unfold put
  simp only [h, and_self, if_true]
theorem put_E1 {g : Gr} {a b : Int} : put g wEdge [a, b] = some { g with edges := g.edges ++ [(a, b, [])] } := by
  unfold put
  have h : ¬ (wEdge = wVertex ∧ g.edges = []) := fun k => absurd k.1 (by decide)
  simp only [if_neg h, if_true]
theorem put_L1 {g : Gr} {a b c d : Int} (h : g.edges ≠ []) : put g wLeg [a, b, c, d] = some { g with edges := putLeg g.edges (a, b, c, d) } := by
  unfold put
  have h' : True ∧ g.edges ≠ [] := ⟨trivial, h⟩
  simp only [if_pos h']
theorem len1 {ns : List Int} (h : ns.length = 1) : ∃ a, ns = [a] := by
  match ns, h with
  | [a], _ => exact ⟨a, rfl⟩
theorem len2 {ns : List Int} (h : ns.length = 2) : ∃ a b, ns = [a, b] := by
  match ns, h with
  | [a, b], _ => exact ⟨a, b, rfl⟩
theorem len4 {ns : List Int} (h : ns.length = 4) : ∃ a b c d, ns = [a, b, c, d] := by
  match ns, h with
  | [a, b, c, d], _ => exact ⟨a, b, c, d, rfl⟩

set_option linter.unusedSimpArgs false in
set_option maxRecDepth 100000 in
set_option maxHeartbeats 8000000 in
theorem readLine_any (B b : Nat) (g : Gr) (s : ByteArray) (first : Bool) (w : World) (hG : GO B b w g) (hM : Ml B w) (hs : s.size ≤ 8192) (hS : Sm 10000 g) (hB : B ≤ w.heap.size) :
    Calls Tryd.prog 30 #[.pointer (some ⟨b, 0, none⟩), .string s, .bool first] w fun e w' => e = .returned (.bool (lineOf g s.data.toList first).isSome) ∧ GO B b w' ((lineOf g s.data.toList first).getD g) ∧ Below B w w' := by
  obtain ⟨ii, hii, hi0, hi1, hi2⟩ := info_parts Tryd.infoIvl
  obtain ⟨ie, hie, he0, he1, he2⟩ := info_parts Tryd.infoEdge
  obtain ⟨il, hil, hl0, hl1, hl2⟩ := info_parts Tryd.infoLeg
  obtain ⟨vL, vE, L, hO, hL⟩ := hG
  have HSp := hideg (Split_any s w hs hM)
  have HBB := hideg hB
  clear hM
  go_enter Tryd.func30, Tryd.ntmps30
  go_wp2_with fail
  refine HSp.out.mono ?_
  rintro e w1 ⟨s0, ts, hsp, htl, rfl, rfl⟩
  obtain ⟨c0, hwd⟩ := wd_new w s0 ts
  have HW := hideg hwd
  have hO1 := (hO.below (gal w (.cells (Value.string s0 :: ts.map Value.string).toArray 9)))
  have HO1 := hideg hO1
  have HB1 := hideg (gal w (.cells (Value.string s0 :: ts.map Value.string).toArray 9))
  have hs1 : (w.alloc (.cells (Value.string s0 :: ts.map Value.string).toArray 9)).heap.size = w.heap.size + 1 := by simp
  clear hwd HSp hO
  generalize w.alloc (.cells (Value.string s0 :: ts.map Value.string).toArray 9) = w1 at *
  have HLn := hideg (fun first => lineOf_eq (g := g) (first := first) hsp)
  clear hsp
  have i1 : (1 : Int) ≤ (ts.length : Int) + 1 := by omega
  have i3 : ((ts.length : Int) + 1 - 1).toNat = ts.length := by omega
  have HNum := hideg (fun ao cap (h : WdAt w1 ao ts) => numbers_any ao cap ts w1 h (by omega))
  have HG1 := hideg (hO1.gat)
  obtain ⟨la, lc, ea, ec, rfl, rfl, _, _, _⟩ := HG1.out
  have HFa : Hid (∀ w2 w3, Below w1.heap.size w1 w2 → Below w2.heap.size w2 w3 → lineOf g s.data.toList first = none → (lineOf g s.data.toList first).isSome = false ∧ GO B b w3 ((lineOf g s.data.toList first).getD g) ∧ Below B w w3) := by
    intro w2 w3 h2 h3 h
    rw [h]
    exact ⟨rfl, ⟨_, _, L, HO1.out.below (ptg h2 h3), hL⟩, (HB1.out.mono HBB.out).trans ((ptg h2 h3).mono (by omega))⟩
  clear HG1
  go_wp2_with fail
  case inl h =>
    subst h
    refine (HNum.out _ _ (.inl rfl)).mono ?_
    rintro e w2 ⟨v, rfl, hv, hb2⟩
    obtain ⟨vo, vc, rfl, _, _⟩ := row_form hv
    have hp : ∀ f, lineOf g s.data.toList f = none := fun f => by
      rw [HLn.out]
      by_cases e : f = isT s0.data.toList
      · rw [lineW_put (ns := []) rfl e]; rfl
      · exact lineW_first e
    have HF := hideg (HFa.out w2 w2 hb2 (Below.refl _ _) (hp first))
    have hbx := (HO1.out.below hb2).box
    have p2 : w2.cell? ⟨b, 2, none⟩ = some (.slice ea L.length ec) := by rw [Lib.cell_of_heap hbx]; rfl
    have q1 : nmw [] = some [] := rfl
    simp only [q1, Option.isSome_some, Option.getD_some, List.length_nil]
    clear hbx hv hb2 hp HNum
    go_wp2
    all_goals
      go_ret
      exact ⟨by rw [HF.out.1]; rfl, HF.out.2⟩
  case inr h =>
    refine (HNum.out _ _ HW.out).mono ?_
    rintro e w2 ⟨v, rfl, hv, hb2⟩
    have HO2 := hideg (HO1.out.below hb2)
    have HB2 := hideg ((HB1.out.mono HBB.out).trans (hb2.mono (by omega)))
    have HF2 := hideg (fun w3 => HFa.out w2 w3 hb2)
    have hbx := HO2.out.box
    have p0 : w2.cell? ⟨b, 0, none⟩ = some (.int .i64 g.hor) := by rw [Lib.cell_of_heap hbx]; rfl
    have p1 : w2.cell? ⟨b, 1, none⟩ = some (.slice la g.lives.length lc) := by rw [Lib.cell_of_heap hbx]; rfl
    have p2 : w2.cell? ⟨b, 2, none⟩ = some (.slice ea L.length ec) := by rw [Lib.cell_of_heap hbx]; rfl
    have hB2 : B ≤ w2.heap.size := by have := hb2.size; omega
    have HLE : Hid (g.edges = [] ↔ L = []) := by show _ ↔ _; rw [hL]; simp
    have hl10 : L.length ≤ 10000 := by have := hS.ed; rw [hL] at this; simpa using this
    clear hbx HFa HNum hb2 HO1 HB1 HW c0
    cases hm : nmw ts with
    | none =>
      rw [hm] at hv
      obtain ⟨vo, vc, rfl, _, _⟩ := row_form hv
      have HF := hideg (HF2.out w2 (Below.refl _ _) (by rw [HLn.out]; exact lineW_none hm))
      simp only [Option.isSome_none, Option.getD_none, List.length_nil]
      clear hv p0 p1 p2
      go_wp2
      all_goals
        go_ret
        exact ⟨by rw [HF.out.1]; rfl, HF.out.2⟩
    | some ns =>
      rw [hm] at hv
      simp only [Option.isSome_some, Option.getD_some] at hv ⊢
      have HFP : Hid (first = isT s0.data.toList → put g s0.data.toList ns = none → (lineOf g s.data.toList first).isSome = false ∧ GO B b w2 ((lineOf g s.data.toList first).getD g) ∧ Below B w w2) := fun h1 h2 => HF2.out w2 (Below.refl _ _) (by rw [HLn.out, lineW_put hm h1]; exact h2)
      have HFF : Hid (first ≠ isT s0.data.toList → (lineOf g s.data.toList first).isSome = false ∧ GO B b w2 ((lineOf g s.data.toList first).getD g) ∧ Below B w w2) := fun h1 => HF2.out w2 (Below.refl _ _) (by rw [HLn.out]; exact lineW_first h1)
      have HOk : Hid (∀ g', first = isT s0.data.toList → put g s0.data.toList ns = some g' → lineOf g s.data.toList first = some g') := fun g' h1 h2 => by rw [HLn.out, lineW_put hm h1]; exact h2
      have i5 : IntKind.i64.wrap ((L.length : Int) - 1) = (L.length : Int) - 1 := by unfold IntKind.wrap; simp [IntKind.bits, IntKind.signed]; omega
      clear HF2 HLn hm
      by_cases hKT : s0.data.toList = wTime
      · have kT : (s0.toList == [116, 105, 109, 101]) = true := by rw [k_eq hKT]; rfl
        have kV : (s0.toList == [118, 101, 114, 116, 101, 120]) = false := by rw [k_eq hKT]; rfl
        have kE : (s0.toList == [101, 100, 103, 101]) = false := by rw [k_eq hKT]; rfl
        have kL : (s0.toList == [108, 101, 103]) = false := by rw [k_eq hKT]; rfl
        have hi : isT s0.data.toList = true := by rw [hKT]; rfl
        rw [hi, hKT] at HFP HOk
        rw [hi] at HFF
        clear hi hKT
        cases first with
        | false =>
          obtain ⟨vo, vc, rfl, _, _⟩ := row_form hv
          have HF := hideg (HFF.out (by decide))
          clear hv p0 p1 p2 HFP HFF HOk
          go_wp2
          all_goals
            go_ret
            exact ⟨by rw [HF.out.1]; rfl, HF.out.2⟩
        | true =>
          by_cases hn : ns.length = 1
          · obtain ⟨a, rfl⟩ := len1 hn
            obtain ⟨gn, vc, rfl, hg1, hg2⟩ := hv.form (by simp)
            have n0 := hv.cellAt 0 (by simp)
            have HP := hideg (HOk.out _ rfl put_T1)
            have fz : w2.frozen? ⟨b, 0, none⟩ = false := Lib.frozen_of_heap HO2.out.box 0
            simp only [List.map_cons, List.getElem?_cons_zero, List.length_cons, List.length_nil, Nat.zero_add] at n0 hg2 ⊢
            clear hv HFP HFF HOk hn
            go_wp2
            go_ret
            rw [HP.out]
            exact ⟨rfl, ⟨_, _, L, HO2.out.setHor a, hL⟩, HB2.out.setCell (p := ⟨b, 0, none⟩) HO2.out.low _⟩
          · obtain ⟨vo, vc, rfl, _, _⟩ := row_form hv
            have HF := hideg (HFP.out rfl (put_T hn))
            have hn2 : ¬ (ns.length : Int) = 1 := by omega
            clear hv p0 p1 HFP HFF HOk
            go_wp2
            all_goals
              go_ret
              exact ⟨by rw [HF.out.1]; rfl, HF.out.2⟩
      · have kT : (s0.toList == [116, 105, 109, 101]) = false := k_ne hKT
        have hi : isT s0.data.toList = false := by unfold isT; simpa using hKT
        rw [hi] at HFP HOk HFF
        clear hi
        cases first with
        | true =>
          obtain ⟨vo, vc, rfl, _, _⟩ := row_form hv
          have HF := hideg (HFF.out (by decide))
          clear hv p0 p1 p2 HFP HFF HOk
          go_wp2
          all_goals
            go_ret
            exact ⟨by rw [HF.out.1]; rfl, HF.out.2⟩
        | false =>
          by_cases hKV : s0.data.toList = wVertex
          · have kV : (s0.toList == [118, 101, 114, 116, 101, 120]) = true := by rw [k_eq hKV]; rfl
            have kE : (s0.toList == [101, 100, 103, 101]) = false := by rw [k_eq hKV]; rfl
            have kL : (s0.toList == [108, 101, 103]) = false := by rw [k_eq hKV]; rfl
            rw [hKV] at HFP HOk
            clear hKV hKT
            by_cases hn : ns.length = 2 ∧ L = []
            · obtain ⟨hn, rfl⟩ := hn
              obtain ⟨x, y, rfl⟩ := len2 hn
              obtain ⟨gn, vc, rfl, hg1, hg2⟩ := hv.form (by simp)
              obtain ⟨cn, hcn⟩ := row_block hv (b := gn) rfl
              have n0 := hv.cellAt 0 (by simp)
              have n1 := hv.cellAt 1 (by simp)
              have HP := hideg (HOk.out _ rfl (put_V1 (HLE.out.2 rfl)))
              simp only [List.map_cons, List.map_nil, List.getElem?_cons_zero, List.getElem?_cons_succ, List.length_cons, List.length_nil, Nat.zero_add, Nat.reduceAdd] at n0 n1 ⊢
              have hlv10 := hS.lv
              have hbl := heap_ltg HO2.out.box
              have hne : some gn ≠ (Value.slice la g.lives.length lc).ownBlock := fun k => row_ne HO2.out.lv hcn (by decide) k.symm
              clear hv HFP HFF HOk hn i5 p0 hcn
              go_wp2_with fail
              refine wp_region_noPanic ?_
              refine wp_region_back (S := fun w' => w'.cell? ⟨b, 1, none⟩ = some (.slice la g.lives.length lc) ∧ w'.cell? ⟨gn, 0, none⟩ = some (.int .i64 x) ∧ w'.cell? ⟨gn, 1, none⟩ = some (.int .i64 y)) (by kernel_rfl) (by simp) (by kernel_rfl) (by kernel_rfl) ⟨p1, n0, n1⟩ (fun hHeld => ?_)
              simp only [List.pop_toArray, List.dropLast, List.back!_toArray, List.getLast!]
              refine take_lit (i := 0) (v := ?_) rfl (by kernel_rfl) (by kernel_rfl) (by kernel_rfl) (fun _ _ _ h => h) (Or.inl ⟨by rfl, ?hy0⟩) (by assumption) ?_
              case hy0 => (intro w hSw; (try dsimp only at hSw); go_simp; try with_reducible rfl)
              try simp only [Act.put, List.setIfInBounds_toArray, List.set_cons_zero, List.set_cons_succ]
              refine take_lit (i := 1) (v := ?_) rfl (by kernel_rfl) (by kernel_rfl) (by kernel_rfl) (fun _ _ _ h => h) (Or.inl ⟨by rfl, ?hy1⟩) (by assumption) ?_
              case hy1 => (intro w hSw; (try dsimp only at hSw); go_simp; try with_reducible rfl)
              try simp only [Act.put, List.setIfInBounds_toArray, List.set_cons_zero, List.set_cons_succ]
              refine take_lit (i := 2) (v := ?_) rfl (by kernel_rfl) (by kernel_rfl) (by kernel_rfl) (fun _ _ _ h => h) (Or.inl ⟨by rfl, ?hy2⟩) (by assumption) ?_
              case hy2 => (intro w hSw; (try dsimp only at hSw); go_simp; try with_reducible rfl)
              try simp only [Act.put, List.setIfInBounds_toArray, List.set_cons_zero, List.set_cons_succ]
              refine take_lit (i := 3) (v := ?_) rfl (by kernel_rfl) (by kernel_rfl) (by kernel_rfl) (fun _ _ _ h => h) (Or.inl ⟨by rfl, ?hy3⟩) (by assumption) ?_
              case hy3 => (intro w hSw; (try dsimp only at hSw); go_simp; try with_reducible rfl)
              try simp only [Act.put, List.setIfInBounds_toArray, List.set_cons_zero, List.set_cons_succ]
              refine take_lit (i := 4) (v := ?_) rfl (by kernel_rfl) (by kernel_rfl) (by kernel_rfl) (fun _ _ _ h => h) (Or.inl ⟨by rfl, ?hy4⟩) (by assumption) ?_
              case hy4 => (intro w hSw; (try dsimp only at hSw); go_simp; try with_reducible rfl)
              try simp only [Act.put, List.setIfInBounds_toArray, List.set_cons_zero, List.set_cons_succ]
              refine take_lit (i := 5) (v := ?_) rfl (by kernel_rfl) (by kernel_rfl) (by kernel_rfl) (fun _ _ _ h => h) (Or.inl ⟨by rfl, ?hy5⟩) (by assumption) ?_
              case hy5 => (intro w hSw; (try dsimp only at hSw); go_simp; try with_reducible rfl)
              try simp only [Act.put, List.setIfInBounds_toArray, List.set_cons_zero, List.set_cons_succ]
              refine take_lit (i := 6) (v := ?_) rfl (by kernel_rfl) (by kernel_rfl) (by kernel_rfl) (fun _ _ _ h => h) (Or.inl ⟨by rfl, ?hy6⟩) (by assumption) ?_
              case hy6 => (intro w hSw; (try dsimp only at hSw); go_simp; try with_reducible rfl)
              try simp only [Act.put, List.setIfInBounds_toArray, List.set_cons_zero, List.set_cons_succ]
              refine take_lit (i := 7) (v := ?_) rfl (by kernel_rfl) (by kernel_rfl) (by kernel_rfl) (fun _ _ _ h => h) (Or.inl ⟨by rfl, ?hy7⟩) (by assumption) ?_
              case hy7 => (intro w hSw; (try dsimp only at hSw); go_simp; try with_reducible rfl)
              try simp only [Act.put, List.setIfInBounds_toArray, List.set_cons_zero, List.set_cons_succ]
              refine take_lit (i := 8) (v := ?_) rfl (by kernel_rfl) (by kernel_rfl) (by kernel_rfl) (fun _ _ _ h => h) (Or.inl ⟨by rfl, ?hy8⟩) (by assumption) ?_
              case hy8 => (intro w hSw; (try dsimp only at hSw); go_simp; try with_reducible rfl)
              try simp only [Act.put, List.setIfInBounds_toArray, List.set_cons_zero, List.set_cons_succ]
              refine take_lit (i := 9) (v := ?_) rfl (by kernel_rfl) (by kernel_rfl) (by kernel_rfl) (fun _ _ _ h => h) (Or.inl ⟨by rfl, ?hy9⟩) (by assumption) ?_
              case hy9 => (intro w hSw; (try dsimp only at hSw); go_simp; try with_reducible rfl)
              try simp only [Act.put, List.setIfInBounds_toArray, List.set_cons_zero, List.set_cons_succ]
              refine take_lit (i := 10) (v := ?_) rfl (by kernel_rfl) (by kernel_rfl) (by kernel_rfl) (fun _ _ _ h => h) (Or.inl ⟨by rfl, ?hy10⟩) (by assumption) ?_
              case hy10 => (intro w hSw; (try dsimp only at hSw); go_simp; try with_reducible rfl)
              try simp only [Act.put, List.setIfInBounds_toArray, List.set_cons_zero, List.set_cons_succ]
              refine take_lit (i := 11) (v := ?_) rfl (by kernel_rfl) (by kernel_rfl) (by kernel_rfl) (fun _ _ _ h => h) (Or.inl ⟨by rfl, ?hy11⟩) (by assumption) ?_
              case hy11 => (intro w hSw; (try dsimp only at hSw); go_simp; try with_reducible rfl)
              try simp only [Act.put, List.setIfInBounds_toArray, List.set_cons_zero, List.set_cons_succ]
              refine next_lit (i := 12) rfl (by kernel_rfl) (fun K hK => ?_)
              go_simp
              have hwa : Below w2.heap.size w2 (w2.drew.alloc (.cells #[.int .i64 x, .int .i64 y] 51)) := (Below.refl _ _).drew.alloc (Nat.le_refl _) _
              have m1 := (hwa.cell (p := ⟨b, 1, none⟩) hbl).trans p1
              have m2 := (hwa.cell (p := ⟨gn, 0, none⟩) hg2).trans n0
              have m3 := (hwa.cell (p := ⟨gn, 1, none⟩) hg2).trans n1
              refine hK.out _ _ ⟨m1, m2, m3⟩ (fun hHeld => ?_)
              clear hK K hHeld
              try simp only [Act.put, List.setIfInBounds_toArray, List.set_cons_zero, List.set_cons_succ]
              refine next_lit (i := 13) rfl (by kernel_rfl) (fun K hK => ?_)
              refine step_append_lies _ (by rfl) _ _ _ (by rfl) B 51 ii _ 2 16 Tryd.underlying22 hii hi0 hi1 hi2 rfl (by omega) (.slice la g.lives.length lc) g.lives.length (encs g.lives) (by rfl) (ownsRow_below HO2.out.lv hwa) ⟨w2.heap.size, 0, none⟩ 1 1 [.int .i64 x, .int .i64 y] (by rfl) (by rfl) (World.news_of_block (cs := #[.int .i64 x, .int .i64 y]) (t := 51) (fr := (0, 0)) (heap_alloc_new w2.drew _)) (by simp [Value.oneCell']) (by omega) (by unfold maxLen; omega) (by omega) (Nat.le_trans hB2 hwa.size) (w2.heap.size + 1) (by simp) ?_
              intro gg cap1 w4 hown1 hgrow hat hltg
              obtain ⟨hbox4, hG4⟩ := HO2.out.life hwa hgrow hown1
              have x1 : w4.cell? ⟨b, 1, none⟩ = some (.slice la g.lives.length lc) := by rw [Lib.cell_of_heap hbox4]; rfl
              have x2 : w4.cell? ⟨gn, 0, none⟩ = some (.int .i64 x) := by rw [hgrow.cell_far _ (Nat.lt_of_lt_of_le hg2 hwa.size) hne]; exact m2
              have x3 : w4.cell? ⟨gn, 1, none⟩ = some (.int .i64 y) := by rw [hgrow.cell_far _ (Nat.lt_of_lt_of_le hg2 hwa.size) hne]; exact m3
              have fz4 : w4.frozen? ⟨b, 1, none⟩ = false := Lib.frozen_of_heap hbox4 1
              have HB4 := hideg (((HB2.out.trans (hwa.mono hB2)).grown hgrow (Nat.le_trans hB2 hwa.size) (fun j hj => (HO2.out.lv.lt j hj).1)).setCell (p := ⟨b, 1, none⟩) HO2.out.low (.slice (some ⟨gg, 0, none⟩) (g.lives.length + 1) cap1))
              have HG4 := hideg hG4
              refine hK.out _ _ ⟨x1, x2, x3⟩ (fun hHeld => ?_)
              clear hK K hwa m1 m2 m3 hgrow hown1 hbox4 hG4 hat hltg
              try simp only [Act.put, List.setIfInBounds_toArray, List.set_cons_zero, List.set_cons_succ]
              refine take_lit (i := 14) (v := ?_) rfl (by kernel_rfl) (by kernel_rfl) (by kernel_rfl) (fun _ _ _ h => h) (Or.inl ⟨by rfl, ?hy14⟩) (by assumption) ?_
              case hy14 => (intro w hSw; (try dsimp only at hSw); go_simp; try with_reducible rfl)
              try simp only [Act.put, List.setIfInBounds_toArray, List.set_cons_zero, List.set_cons_succ]
              refine take_lit (i := 15) (v := ?_) rfl (by kernel_rfl) (by kernel_rfl) (by kernel_rfl) (fun _ _ _ h => h) (Or.inl ⟨by rfl, ?hy15⟩) (by assumption) ?_
              case hy15 => (intro w hSw; (try dsimp only at hSw); go_simp; try with_reducible rfl)
              try simp only [Act.put, List.setIfInBounds_toArray, List.set_cons_zero, List.set_cons_succ]
              refine wpAnyH_done (by kernel_rfl) ?_ _
              refine back_last (fun K hK => ?_)
              clear hHeld
              go_simp
              refine hK.out _ _ (NoPanic.normal ?_)
              clear hK K x1 x2 x3 fz4
              go_wp2
              go_ret
              rw [HP.out]
              exact ⟨rfl, ⟨_, _, [], HG4.out, hL⟩, HB4.out⟩
            · have hz : ns.length ≠ 2 ∨ g.edges ≠ [] := by
                rcases Nat.decEq ns.length 2 with q | q
                · exact .inl q
                · exact .inr fun k => hn ⟨q, HLE.out.1 k⟩
              obtain ⟨vo, vc, rfl, _, _⟩ := row_form hv
              have HF := hideg (HFP.out rfl (put_V hz))
              have hz2 : ¬ (ns.length : Int) = 2 ∨ (ns.length : Int) = 2 ∧ 0 ≤ (L.length : Int) - 1 := by
                rcases Nat.decEq ns.length 2 with q | q
                · exact .inl (by omega)
                · refine .inr ⟨by omega, ?_⟩
                  have : L ≠ [] := fun k => hn ⟨q, k⟩
                  have := List.length_pos_iff.2 this
                  omega
              clear hv p0 p1 HFP HFF HOk hz hn
              rcases hz2 with hz2 | ⟨hz2, hz3⟩
              all_goals
                go_wp2
                all_goals
                  go_ret
                  exact ⟨by rw [HF.out.1]; rfl, HF.out.2⟩
          · have kV : (s0.toList == [118, 101, 114, 116, 101, 120]) = false := k_ne hKV
            by_cases hKE : s0.data.toList = wEdge
            · have kE : (s0.toList == [101, 100, 103, 101]) = true := by rw [k_eq hKE]; rfl
              have kL : (s0.toList == [108, 101, 103]) = false := by rw [k_eq hKE]; rfl
              rw [hKE] at HFP HOk
              clear hKV hKT hKE
              by_cases hn : ns.length = 2
              · obtain ⟨x, y, rfl⟩ := len2 hn
                obtain ⟨gn, vc, rfl, hg1, hg2⟩ := hv.form (by simp)
                obtain ⟨cn, hcn⟩ := row_block hv (b := gn) rfl
                have n0 := hv.cellAt 0 (by simp)
                have n1 := hv.cellAt 1 (by simp)
                have HP := hideg (HOk.out _ rfl put_E1)
                simp only [List.map_cons, List.map_nil, List.getElem?_cons_zero, List.getElem?_cons_succ, List.length_cons, List.length_nil, Nat.zero_add, Nat.reduceAdd] at n0 n1 ⊢
                have hbl := heap_ltg HO2.out.box
                have hne : some gn ≠ (Value.slice ea L.length ec).ownBlock := fun k => row_ne HO2.out.ed hcn (by decide) k.symm
                clear hv HFP HFF HOk hn p0 p1 hcn
                go_wp2_with fail
                refine wp_region_noPanic ?_
                refine wp_region_back (S := fun w' => w'.cell? ⟨b, 2, none⟩ = some (.slice ea L.length ec) ∧ w'.cell? ⟨gn, 0, none⟩ = some (.int .i64 x) ∧ w'.cell? ⟨gn, 1, none⟩ = some (.int .i64 y)) (by kernel_rfl) (by simp) (by kernel_rfl) (by kernel_rfl) ⟨p2, n0, n1⟩ (fun hHeld => ?_)
                simp only [List.pop_toArray, List.dropLast, List.back!_toArray, List.getLast!]
                refine take_lit (i := 0) (v := ?_) rfl (by kernel_rfl) (by kernel_rfl) (by kernel_rfl) (fun _ _ _ h => h) (Or.inl ⟨by rfl, ?hy0⟩) (by assumption) ?_
                case hy0 => (intro w hSw; (try dsimp only at hSw); go_simp; try with_reducible rfl)
                try simp only [Act.put, List.setIfInBounds_toArray, List.set_cons_zero, List.set_cons_succ]
                refine take_lit (i := 1) (v := ?_) rfl (by kernel_rfl) (by kernel_rfl) (by kernel_rfl) (fun _ _ _ h => h) (Or.inl ⟨by rfl, ?hy1⟩) (by assumption) ?_
                case hy1 => (intro w hSw; (try dsimp only at hSw); go_simp; try with_reducible rfl)
                try simp only [Act.put, List.setIfInBounds_toArray, List.set_cons_zero, List.set_cons_succ]
                refine take_lit (i := 2) (v := ?_) rfl (by kernel_rfl) (by kernel_rfl) (by kernel_rfl) (fun _ _ _ h => h) (Or.inl ⟨by rfl, ?hy2⟩) (by assumption) ?_
                case hy2 => (intro w hSw; (try dsimp only at hSw); go_simp; try with_reducible rfl)
                try simp only [Act.put, List.setIfInBounds_toArray, List.set_cons_zero, List.set_cons_succ]
                refine take_lit (i := 3) (v := ?_) rfl (by kernel_rfl) (by kernel_rfl) (by kernel_rfl) (fun _ _ _ h => h) (Or.inl ⟨by rfl, ?hy3⟩) (by assumption) ?_
                case hy3 => (intro w hSw; (try dsimp only at hSw); go_simp; try with_reducible rfl)
                try simp only [Act.put, List.setIfInBounds_toArray, List.set_cons_zero, List.set_cons_succ]
                refine take_lit (i := 4) (v := ?_) rfl (by kernel_rfl) (by kernel_rfl) (by kernel_rfl) (fun _ _ _ h => h) (Or.inl ⟨by rfl, ?hy4⟩) (by assumption) ?_
                case hy4 => (intro w hSw; (try dsimp only at hSw); go_simp; try with_reducible rfl)
                try simp only [Act.put, List.setIfInBounds_toArray, List.set_cons_zero, List.set_cons_succ]
                refine take_lit (i := 5) (v := ?_) rfl (by kernel_rfl) (by kernel_rfl) (by kernel_rfl) (fun _ _ _ h => h) (Or.inl ⟨by rfl, ?hy5⟩) (by assumption) ?_
                case hy5 => (intro w hSw; (try dsimp only at hSw); go_simp; try with_reducible rfl)
                try simp only [Act.put, List.setIfInBounds_toArray, List.set_cons_zero, List.set_cons_succ]
                refine take_lit (i := 6) (v := ?_) rfl (by kernel_rfl) (by kernel_rfl) (by kernel_rfl) (fun _ _ _ h => h) (Or.inl ⟨by rfl, ?hy6⟩) (by assumption) ?_
                case hy6 => (intro w hSw; (try dsimp only at hSw); go_simp; try with_reducible rfl)
                try simp only [Act.put, List.setIfInBounds_toArray, List.set_cons_zero, List.set_cons_succ]
                refine take_lit (i := 7) (v := ?_) rfl (by kernel_rfl) (by kernel_rfl) (by kernel_rfl) (fun _ _ _ h => h) (Or.inl ⟨by rfl, ?hy7⟩) (by assumption) ?_
                case hy7 => (intro w hSw; (try dsimp only at hSw); go_simp; try with_reducible rfl)
                try simp only [Act.put, List.setIfInBounds_toArray, List.set_cons_zero, List.set_cons_succ]
                refine take_lit (i := 8) (v := ?_) rfl (by kernel_rfl) (by kernel_rfl) (by kernel_rfl) (fun _ _ _ h => h) (Or.inl ⟨by rfl, ?hy8⟩) (by assumption) ?_
                case hy8 => (intro w hSw; (try dsimp only at hSw); go_simp; try with_reducible rfl)
                try simp only [Act.put, List.setIfInBounds_toArray, List.set_cons_zero, List.set_cons_succ]
                refine take_lit (i := 9) (v := ?_) rfl (by kernel_rfl) (by kernel_rfl) (by kernel_rfl) (fun _ _ _ h => h) (Or.inl ⟨by rfl, ?hy9⟩) (by assumption) ?_
                case hy9 => (intro w hSw; (try dsimp only at hSw); go_simp; try with_reducible rfl)
                try simp only [Act.put, List.setIfInBounds_toArray, List.set_cons_zero, List.set_cons_succ]
                refine take_lit (i := 10) (v := ?_) rfl (by kernel_rfl) (by kernel_rfl) (by kernel_rfl) (fun _ _ _ h => h) (Or.inl ⟨by rfl, ?hy10⟩) (by assumption) ?_
                case hy10 => (intro w hSw; (try dsimp only at hSw); go_simp; try with_reducible rfl)
                try simp only [Act.put, List.setIfInBounds_toArray, List.set_cons_zero, List.set_cons_succ]
                refine take_lit (i := 11) (v := ?_) rfl (by kernel_rfl) (by kernel_rfl) (by kernel_rfl) (fun _ _ _ h => h) (Or.inl ⟨by rfl, ?hy11⟩) (by assumption) ?_
                case hy11 => (intro w hSw; (try dsimp only at hSw); go_simp; try with_reducible rfl)
                try simp only [Act.put, List.setIfInBounds_toArray, List.set_cons_zero, List.set_cons_succ]
                refine next_lit (i := 12) rfl (by kernel_rfl) (fun K hK => ?_)
                go_simp
                have hwa : Below w2.heap.size w2 (w2.drew.alloc (.cells #[.int .i64 x, .int .i64 y, .slice none 0 0] 54)) := (Below.refl _ _).drew.alloc (Nat.le_refl _) _
                have m1 := (hwa.cell (p := ⟨b, 2, none⟩) hbl).trans p2
                have m2 := (hwa.cell (p := ⟨gn, 0, none⟩) hg2).trans n0
                have m3 := (hwa.cell (p := ⟨gn, 1, none⟩) hg2).trans n1
                refine hK.out _ _ ⟨m1, m2, m3⟩ (fun hHeld => ?_)
                clear hK K hHeld
                try simp only [Act.put, List.setIfInBounds_toArray, List.set_cons_zero, List.set_cons_succ]
                refine next_lit (i := 13) rfl (by kernel_rfl) (fun K hK => ?_)
                refine step_append_lies _ (by rfl) _ _ _ (by rfl) B 54 ie _ 3 40 Tryd.underlying23 hie he0 he1 he2 rfl (by omega) (.slice ea L.length ec) L.length (encE L) (by rfl) (ownsRow_below HO2.out.ed hwa) ⟨w2.heap.size, 0, none⟩ 1 1 [.int .i64 x, .int .i64 y, .slice none 0 0] (by rfl) (by rfl) (World.news_of_block (cs := #[.int .i64 x, .int .i64 y, .slice none 0 0]) (t := 54) (fr := (0, 0)) (heap_alloc_new w2.drew _)) (by simp [Value.oneCell']) (by omega) (by unfold maxLen; omega) (by omega) (Nat.le_trans hB2 hwa.size) (w2.heap.size + 1) (by simp) ?_
                intro gg cap1 w4 hown1 hgrow hat hltg
                obtain ⟨hbox4, hG4⟩ := HO2.out.edge hwa hgrow hown1
                have x1 : w4.cell? ⟨b, 2, none⟩ = some (.slice ea L.length ec) := by rw [Lib.cell_of_heap hbox4]; rfl
                have x2 : w4.cell? ⟨gn, 0, none⟩ = some (.int .i64 x) := by rw [hgrow.cell_far _ (Nat.lt_of_lt_of_le hg2 hwa.size) hne]; exact m2
                have x3 : w4.cell? ⟨gn, 1, none⟩ = some (.int .i64 y) := by rw [hgrow.cell_far _ (Nat.lt_of_lt_of_le hg2 hwa.size) hne]; exact m3
                have fz4 : w4.frozen? ⟨b, 2, none⟩ = false := Lib.frozen_of_heap hbox4 2
                have HB4 := hideg (((HB2.out.trans (hwa.mono hB2)).grown hgrow (Nat.le_trans hB2 hwa.size) (fun j hj => (HO2.out.ed.lt j hj).1)).setCell (p := ⟨b, 2, none⟩) HO2.out.low (.slice (some ⟨gg, 0, none⟩) (L.length + 1) cap1))
                have HG4 := hideg hG4
                refine hK.out _ _ ⟨x1, x2, x3⟩ (fun hHeld => ?_)
                clear hK K hwa m1 m2 m3 hgrow hown1 hbox4 hG4 hat hltg
                try simp only [Act.put, List.setIfInBounds_toArray, List.set_cons_zero, List.set_cons_succ]
                refine take_lit (i := 14) (v := ?_) rfl (by kernel_rfl) (by kernel_rfl) (by kernel_rfl) (fun _ _ _ h => h) (Or.inl ⟨by rfl, ?hy14⟩) (by assumption) ?_
                case hy14 => (intro w hSw; (try dsimp only at hSw); go_simp; try with_reducible rfl)
                try simp only [Act.put, List.setIfInBounds_toArray, List.set_cons_zero, List.set_cons_succ]
                refine take_lit (i := 15) (v := ?_) rfl (by kernel_rfl) (by kernel_rfl) (by kernel_rfl) (fun _ _ _ h => h) (Or.inl ⟨by rfl, ?hy15⟩) (by assumption) ?_
                case hy15 => (intro w hSw; (try dsimp only at hSw); go_simp; try with_reducible rfl)
                try simp only [Act.put, List.setIfInBounds_toArray, List.set_cons_zero, List.set_cons_succ]
                refine wpAnyH_done (by kernel_rfl) ?_ _
                refine back_last (fun K hK => ?_)
                clear hHeld
                go_simp
                refine hK.out _ _ (NoPanic.normal ?_)
                clear hK K x1 x2 x3 fz4
                go_wp2
                go_ret
                rw [HP.out]
                exact ⟨rfl, ⟨_, _, _, HG4.out, by rw [List.map_append, ← hL]; rfl⟩, HB4.out⟩
              · obtain ⟨vo, vc, rfl, _, _⟩ := row_form hv
                have HF := hideg (HFP.out rfl (put_E hn))
                have hz2 : ¬ (ns.length : Int) = 2 := by omega
                clear hv p0 p1 HFP HFF HOk hn
                go_wp2
                all_goals
                  go_ret
                  exact ⟨by rw [HF.out.1]; rfl, HF.out.2⟩
            · have kE : (s0.toList == [101, 100, 103, 101]) = false := k_ne hKE
              by_cases hKL : s0.data.toList = wLeg
              · have kL : (s0.toList == [108, 101, 103]) = true := by rw [k_eq hKL]; rfl
                rw [hKL] at HFP HOk
                clear hKV hKT hKE hKL
                by_cases hn : ns.length = 4 ∧ L ≠ []
                · obtain ⟨hn, hLn⟩ := hn
                  obtain ⟨x, y, z, u, rfl⟩ := len4 hn
                  obtain ⟨gn, vc, rfl, hg1, hg2⟩ := hv.form (by simp)
                  obtain ⟨cn, hcn⟩ := row_block hv (b := gn) rfl
                  have n0 := hv.cellAt 0 (by simp)
                  have n1 := hv.cellAt 1 (by simp)
                  have n2 := hv.cellAt 2 (by simp)
                  have n3 := hv.cellAt 3 (by simp)
                  have HP := hideg (HOk.out _ rfl (put_L1 (fun k => hLn (HLE.out.1 k))))
                  simp only [List.map_cons, List.map_nil, List.getElem?_cons_zero, List.getElem?_cons_succ, List.length_cons, List.length_nil, Nat.zero_add, Nat.reduceAdd] at n0 n1 n2 n3 ⊢
                  clear hv HFP HFF HOk hn p0 p1 HLE
                  obtain ⟨M, p, hMp⟩ : ∃ M p, L = M ++ [p] := by
                    rcases List.eq_nil_or_concat L with k | ⟨M, p, k⟩
                    · exact absurd k hLn
                    · exact ⟨M, p, by rw [k, List.concat_eq_append]⟩
                  subst hMp
                  obtain ⟨⟨A, C, legs⟩, v⟩ := p
                  have hlm : (M ++ [((A, C, legs), v)]).length = M.length + 1 := by simp
                  simp only [hlm] at p2 HO2 i5 hl10 ⊢
                  have hlr := HO2.out.lg ((A, C, legs), v) (by simp)
                  have hl6 : legs.length ≤ 10000 := hS.lg (A, C, legs) (by rw [hL]; simp)
                  obtain ⟨ge, ec', he, hge1, hge2⟩ := HO2.out.ed.form (by simp)
                  simp only [hlm] at he
                  rw [he] at p2 HO2
                  simp only [Value.slice.injEq, true_and] at he
                  obtain ⟨rfl, rfl⟩ := he
                  simp only at hlr
                  obtain ⟨lo, lcap, rfl, _, _⟩ := row_form hlr
                  have hed := HO2.out.ed
                  rw [hlm] at hed
                  have q2 : w2.cell? ⟨ge, M.length * 3 + 2, none⟩ = some (.slice lo legs.length lcap) := by
                    rw [hed.cellAt _ (by omega)]
                    have := (encE_get (M ++ [((A, C, legs), .slice lo legs.length lcap)]) M.length (by simp)).2.2
                    simpa using this
                  have hne : some gn ≠ (Value.slice lo legs.length lcap).ownBlock := fun k => row_ne hlr hcn (by decide) k.symm
                  have j1 : ((M.length + 1 : Nat) : Int) - 1 = (M.length : Int) := by omega
                  have j2 : (M.length : Int) < ((M.length + 1 : Nat) : Int) := by omega
                  have j3 : (0 : Int) ≤ (M.length : Int) := by omega
                  rw [j1] at i5
                  clear hlm hcn hed hLn
                  go_wp2_with fail
                  refine wp_region_noPanic ?_
                  refine wp_region_back (S := fun w' => w'.cell? ⟨ge, M.length * 3 + 2, none⟩ = some (.slice lo legs.length lcap) ∧ w'.cell? ⟨gn, 0, none⟩ = some (.int .i64 x) ∧ w'.cell? ⟨gn, 1, none⟩ = some (.int .i64 y) ∧ w'.cell? ⟨gn, 2, none⟩ = some (.int .i64 z) ∧ w'.cell? ⟨gn, 3, none⟩ = some (.int .i64 u)) (by kernel_rfl) (by simp) (by kernel_rfl) (by kernel_rfl) ⟨q2, n0, n1, n2, n3⟩ (fun hHeld => ?_)
                  simp only [List.pop_toArray, List.dropLast, List.back!_toArray, List.getLast!]
                  refine take_lit (i := 0) (v := ?_) rfl (by kernel_rfl) (by kernel_rfl) (by kernel_rfl) (fun _ _ _ h => h) (Or.inl ⟨by rfl, ?hy0⟩) (by assumption) ?_
                  case hy0 => (intro w hSw; (try dsimp only at hSw); go_simp; try with_reducible rfl)
                  try simp only [Act.put, List.setIfInBounds_toArray, List.set_cons_zero, List.set_cons_succ]
                  refine take_lit (i := 1) (v := ?_) rfl (by kernel_rfl) (by kernel_rfl) (by kernel_rfl) (fun _ _ _ h => h) (Or.inl ⟨by rfl, ?hy1⟩) (by assumption) ?_
                  case hy1 => (intro w hSw; (try dsimp only at hSw); go_simp; try with_reducible rfl)
                  try simp only [Act.put, List.setIfInBounds_toArray, List.set_cons_zero, List.set_cons_succ]
                  refine take_lit (i := 2) (v := ?_) rfl (by kernel_rfl) (by kernel_rfl) (by kernel_rfl) (fun _ _ _ h => h) (Or.inl ⟨by rfl, ?hy2⟩) (by assumption) ?_
                  case hy2 => (intro w hSw; (try dsimp only at hSw); go_simp; try with_reducible rfl)
                  try simp only [Act.put, List.setIfInBounds_toArray, List.set_cons_zero, List.set_cons_succ]
                  refine take_lit (i := 3) (v := ?_) rfl (by kernel_rfl) (by kernel_rfl) (by kernel_rfl) (fun _ _ _ h => h) (Or.inl ⟨by rfl, ?hy3⟩) (by assumption) ?_
                  case hy3 => (intro w hSw; (try dsimp only at hSw); go_simp; try with_reducible rfl)
                  try simp only [Act.put, List.setIfInBounds_toArray, List.set_cons_zero, List.set_cons_succ]
                  refine take_lit (i := 4) (v := ?_) rfl (by kernel_rfl) (by kernel_rfl) (by kernel_rfl) (fun _ _ _ h => h) (Or.inl ⟨by rfl, ?hy4⟩) (by assumption) ?_
                  case hy4 => (intro w hSw; (try dsimp only at hSw); go_simp; try with_reducible rfl)
                  try simp only [Act.put, List.setIfInBounds_toArray, List.set_cons_zero, List.set_cons_succ]
                  refine take_lit (i := 5) (v := ?_) rfl (by kernel_rfl) (by kernel_rfl) (by kernel_rfl) (fun _ _ _ h => h) (Or.inl ⟨by rfl, ?hy5⟩) (by assumption) ?_
                  case hy5 => (intro w hSw; (try dsimp only at hSw); go_simp; try with_reducible rfl)
                  try simp only [Act.put, List.setIfInBounds_toArray, List.set_cons_zero, List.set_cons_succ]
                  refine take_lit (i := 6) (v := ?_) rfl (by kernel_rfl) (by kernel_rfl) (by kernel_rfl) (fun _ _ _ h => h) (Or.inl ⟨by rfl, ?hy6⟩) (by assumption) ?_
                  case hy6 => (intro w hSw; (try dsimp only at hSw); go_simp; try with_reducible rfl)
                  try simp only [Act.put, List.setIfInBounds_toArray, List.set_cons_zero, List.set_cons_succ]
                  refine take_lit (i := 7) (v := ?_) rfl (by kernel_rfl) (by kernel_rfl) (by kernel_rfl) (fun _ _ _ h => h) (Or.inl ⟨by rfl, ?hy7⟩) (by assumption) ?_
                  case hy7 => (intro w hSw; (try dsimp only at hSw); go_simp; try with_reducible rfl)
                  try simp only [Act.put, List.setIfInBounds_toArray, List.set_cons_zero, List.set_cons_succ]
                  refine take_lit (i := 8) (v := ?_) rfl (by kernel_rfl) (by kernel_rfl) (by kernel_rfl) (fun _ _ _ h => h) (Or.inl ⟨by rfl, ?hy8⟩) (by assumption) ?_
                  case hy8 => (intro w hSw; (try dsimp only at hSw); go_simp; try with_reducible rfl)
                  try simp only [Act.put, List.setIfInBounds_toArray, List.set_cons_zero, List.set_cons_succ]
                  refine take_lit (i := 9) (v := ?_) rfl (by kernel_rfl) (by kernel_rfl) (by kernel_rfl) (fun _ _ _ h => h) (Or.inl ⟨by rfl, ?hy9⟩) (by assumption) ?_
                  case hy9 => (intro w hSw; (try dsimp only at hSw); go_simp; try with_reducible rfl)
                  try simp only [Act.put, List.setIfInBounds_toArray, List.set_cons_zero, List.set_cons_succ]
                  refine take_lit (i := 10) (v := ?_) rfl (by kernel_rfl) (by kernel_rfl) (by kernel_rfl) (fun _ _ _ h => h) (Or.inl ⟨by rfl, ?hy10⟩) (by assumption) ?_
                  case hy10 => (intro w hSw; (try dsimp only at hSw); go_simp; try with_reducible rfl)
                  try simp only [Act.put, List.setIfInBounds_toArray, List.set_cons_zero, List.set_cons_succ]
                  refine take_lit (i := 11) (v := ?_) rfl (by kernel_rfl) (by kernel_rfl) (by kernel_rfl) (fun _ _ _ h => h) (Or.inl ⟨by rfl, ?hy11⟩) (by assumption) ?_
                  case hy11 => (intro w hSw; (try dsimp only at hSw); go_simp; try with_reducible rfl)
                  try simp only [Act.put, List.setIfInBounds_toArray, List.set_cons_zero, List.set_cons_succ]
                  refine take_lit (i := 12) (v := ?_) rfl (by kernel_rfl) (by kernel_rfl) (by kernel_rfl) (fun _ _ _ h => h) (Or.inl ⟨by rfl, ?hy12⟩) (by assumption) ?_
                  case hy12 => (intro w hSw; (try dsimp only at hSw); go_simp; try with_reducible rfl)
                  try simp only [Act.put, List.setIfInBounds_toArray, List.set_cons_zero, List.set_cons_succ]
                  refine take_lit (i := 13) (v := ?_) rfl (by kernel_rfl) (by kernel_rfl) (by kernel_rfl) (fun _ _ _ h => h) (Or.inl ⟨by rfl, ?hy13⟩) (by assumption) ?_
                  case hy13 => (intro w hSw; (try dsimp only at hSw); go_simp; try with_reducible rfl)
                  try simp only [Act.put, List.setIfInBounds_toArray, List.set_cons_zero, List.set_cons_succ]
                  refine take_lit (i := 14) (v := ?_) rfl (by kernel_rfl) (by kernel_rfl) (by kernel_rfl) (fun _ _ _ h => h) (Or.inl ⟨by rfl, ?hy14⟩) (by assumption) ?_
                  case hy14 => (intro w hSw; (try dsimp only at hSw); go_simp; try with_reducible rfl)
                  try simp only [Act.put, List.setIfInBounds_toArray, List.set_cons_zero, List.set_cons_succ]
                  refine take_lit (i := 15) (v := ?_) rfl (by kernel_rfl) (by kernel_rfl) (by kernel_rfl) (fun _ _ _ h => h) (Or.inl ⟨by rfl, ?hy15⟩) (by assumption) ?_
                  case hy15 => (intro w hSw; (try dsimp only at hSw); go_simp; try with_reducible rfl)
                  try simp only [Act.put, List.setIfInBounds_toArray, List.set_cons_zero, List.set_cons_succ]
                  refine take_lit (i := 16) (v := ?_) rfl (by kernel_rfl) (by kernel_rfl) (by kernel_rfl) (fun _ _ _ h => h) (Or.inl ⟨by rfl, ?hy16⟩) (by assumption) ?_
                  case hy16 => (intro w hSw; (try dsimp only at hSw); go_simp; try with_reducible rfl)
                  try simp only [Act.put, List.setIfInBounds_toArray, List.set_cons_zero, List.set_cons_succ]
                  refine next_lit (i := 17) rfl (by kernel_rfl) (fun K hK => ?_)
                  go_simp
                  have hwa : Below w2.heap.size w2 (w2.drew.alloc (.cells #[.int .i64 x, .int .i64 y, .int .i64 z, .int .i64 u] 56)) := (Below.refl _ _).drew.alloc (Nat.le_refl _) _
                  have m1 := (hwa.cell (p := ⟨ge, M.length * 3 + 2, none⟩) hge2).trans q2
                  have m2 := (hwa.cell (p := ⟨gn, 0, none⟩) hg2).trans n0
                  have m3 := (hwa.cell (p := ⟨gn, 1, none⟩) hg2).trans n1
                  have m4 := (hwa.cell (p := ⟨gn, 2, none⟩) hg2).trans n2
                  have m5 := (hwa.cell (p := ⟨gn, 3, none⟩) hg2).trans n3
                  refine hK.out _ _ ⟨m1, m2, m3, m4, m5⟩ (fun hHeld => ?_)
                  clear hK K hHeld
                  try simp only [Act.put, List.setIfInBounds_toArray, List.set_cons_zero, List.set_cons_succ]
                  refine next_lit (i := 18) rfl (by kernel_rfl) (fun K hK => ?_)
                  refine step_append_lies _ (by rfl) _ _ _ (by rfl) B 56 il _ 4 32 Tryd.underlying52 hil hl0 hl1 hl2 rfl (by omega) (.slice lo legs.length lcap) legs.length (enc4 legs) (by rfl) (ownsRow_below hlr hwa) ⟨w2.heap.size, 0, none⟩ 1 1 [.int .i64 x, .int .i64 y, .int .i64 z, .int .i64 u] (by rfl) (by rfl) (World.news_of_block (cs := #[.int .i64 x, .int .i64 y, .int .i64 z, .int .i64 u]) (t := 56) (fr := (0, 0)) (heap_alloc_new w2.drew _)) (by simp [Value.oneCell']) (by omega) (by unfold maxLen; omega) (by omega) (Nat.le_trans hB2 hwa.size) (w2.heap.size + 1) (by simp) ?_
                  intro gg cap1 w4 hown1 hgrow hat hltg
                  obtain ⟨hbox4, x1, fz4, hG4⟩ := HO2.out.leg (l := (x, y, z, u)) hwa hgrow hown1 hat (by omega)
                  have x2 : w4.cell? ⟨gn, 0, none⟩ = some (.int .i64 x) := by rw [hgrow.cell_far _ (Nat.lt_of_lt_of_le hg2 hwa.size) hne]; exact m2
                  have x3 : w4.cell? ⟨gn, 1, none⟩ = some (.int .i64 y) := by rw [hgrow.cell_far _ (Nat.lt_of_lt_of_le hg2 hwa.size) hne]; exact m3
                  have x4 : w4.cell? ⟨gn, 2, none⟩ = some (.int .i64 z) := by rw [hgrow.cell_far _ (Nat.lt_of_lt_of_le hg2 hwa.size) hne]; exact m4
                  have x5 : w4.cell? ⟨gn, 3, none⟩ = some (.int .i64 u) := by rw [hgrow.cell_far _ (Nat.lt_of_lt_of_le hg2 hwa.size) hne]; exact m5
                  have HB4 := hideg (((HB2.out.trans (hwa.mono hB2)).grown hgrow (Nat.le_trans hB2 hwa.size) (fun j hj => (hlr.lt j hj).1)).setCell (p := ⟨ge, M.length * 3 + 2, none⟩) hge1 (.slice (some ⟨gg, 0, none⟩) (legs.length + 1) cap1))
                  have HG4 := hideg hG4
                  refine hK.out _ _ ⟨x1, x2, x3, x4, x5⟩ (fun hHeld => ?_)
                  clear hK K hwa m1 m2 m3 m4 m5 hgrow hown1 hbox4 hG4 hat hltg
                  try simp only [Act.put, List.setIfInBounds_toArray, List.set_cons_zero, List.set_cons_succ]
                  refine take_lit (i := 19) (v := ?_) rfl (by kernel_rfl) (by kernel_rfl) (by kernel_rfl) (fun _ _ _ h => h) (Or.inl ⟨by rfl, ?hy19⟩) (by assumption) ?_
                  case hy19 => (intro w hSw; (try dsimp only at hSw); go_simp; try with_reducible rfl)
                  try simp only [Act.put, List.setIfInBounds_toArray, List.set_cons_zero, List.set_cons_succ]
                  refine wpAnyH_done (by kernel_rfl) ?_ _
                  refine back_last (fun K hK => ?_)
                  clear hHeld
                  go_simp
                  refine hK.out _ _ (NoPanic.normal ?_)
                  clear hK K x1 x2 x3 x4 x5 fz4
                  go_wp2
                  go_ret
                  rw [HP.out]
                  refine ⟨rfl, ⟨_, _, _, HG4.out, ?_⟩, HB4.out⟩
                  simp only [Option.getD_some, hL, List.map_append, List.map_cons, List.map_nil, putLeg_snoc]
                · have hz : ns.length ≠ 4 ∨ g.edges = [] := by
                    rcases Nat.decEq ns.length 4 with q | q
                    · exact .inl q
                    · exact .inr (by
                        by_cases e : L = []
                        · exact HLE.out.2 e
                        · exact absurd ⟨q, e⟩ hn)
                  obtain ⟨vo, vc, rfl, _, _⟩ := row_form hv
                  have HF := hideg (HFP.out rfl (put_L hz))
                  have hz2 : ¬ (ns.length : Int) = 4 ∨ (ns.length : Int) = 4 ∧ (L.length : Int) - 1 < 0 := by
                    rcases Nat.decEq ns.length 4 with q | q
                    · exact .inl (by omega)
                    · refine .inr ⟨by omega, ?_⟩
                      have : L = [] := by
                        by_cases e : L = []
                        · exact e
                        · exact absurd ⟨q, e⟩ hn
                      rw [this]; decide
                  clear hv p0 p1 HFP HFF HOk hz hn
                  rcases hz2 with hz2 | ⟨hz2, hz3⟩
                  all_goals
                    go_wp2
                    all_goals
                      go_ret
                      exact ⟨by rw [HF.out.1]; rfl, HF.out.2⟩
              · have kL : (s0.toList == [108, 101, 103]) = false := k_ne hKL
                obtain ⟨vo, vc, rfl, _, _⟩ := row_form hv
                have HF := hideg (HFP.out rfl (put_X hKT hKV hKE hKL))
                clear hv p0 p1 HFP HFF HOk hKV hKT hKE hKL
                go_wp2
                all_goals
                  go_ret
                  exact ⟨by rw [HF.out.1]; rfl, HF.out.2⟩

end Go.Proofs.YtjjhhmlogddnkaiDoor

namespace Go.Proofs.YtjjhhmlogddnkaiDoor
open Go.RowKit

theorem Ml.mono {B B' : Nat} {w : World} (h : Ml B w) (k : B ≤ B') : Ml B' w := ⟨Nat.lt_of_lt_of_le h.low k, h.cell⟩
/-- a graph's lists, in memory from B on -/
structure GRw (B : Nat) (w : World) (vL vE : Value) (lives : List (Int × Int)) (L : List (Ed × Value)) : Prop where
  lv : w.ownsRow B 51 2 vL lives.length (encs lives)
  ed : w.ownsRow B 54 3 vE L.length (encE L)
  lg : ∀ p ∈ L, w.ownsRow B 56 4 p.2 p.1.2.2.length (enc4 p.1.2.2)
theorem GOwn.rw {B b : Nat} {w : World} {hor : Int} {vL vE : Value} {lives : List (Int × Int)} {L : List (Ed × Value)} (h : GOwn B b w hor vL vE lives L) : GRw B w vL vE lives L := ⟨h.lv, h.ed, h.lg⟩
theorem GRw.below {B : Nat} {w w' : World} {vL vE : Value} {lives : List (Int × Int)} {L : List (Ed × Value)} (h : GRw B w vL vE lives L) (hb : Below w.heap.size w w') : GRw B w' vL vE lives L :=
  ⟨ownsRow_below h.lv hb, ownsRow_below h.ed hb, fun p hp => ownsRow_below (h.lg p hp) hb⟩
theorem GRw.base {B B' : Nat} {w : World} {vL vE : Value} {lives : List (Int × Int)} {L : List (Ed × Value)} (h : GRw B w vL vE lives L) (hB : B' ≤ B) : GRw B' w vL vE lives L :=
  ⟨owns_base2 h.lv hB, owns_base2 h.ed hB, fun p hp => owns_base2 (h.lg p hp) hB⟩
theorem GRw.setLow {B : Nat} {w : World} {vL vE : Value} {lives : List (Int × Int)} {L : List (Ed × Value)} (h : GRw B w vL vE lives L) {R : Nat} (hR : R < B) (j : Nat) (u : Value) : GRw B (w.setCell ⟨R, j, none⟩ u) vL vE lives L := by
  have hne : ∀ {e size n : Nat} {v : Value} {xs : List Value}, w.ownsRow B e size v n xs → v.ownBlock ≠ some R := fun h k => by have := (h.lt R k).1; omega
  exact ⟨row_set h.lv (hne h.lv), row_set h.ed (hne h.ed), fun p hp => row_set (h.lg p hp) (hne (h.lg p hp))⟩
theorem GRw.gat {B : Nat} {w : World} {vL vE : Value} {lives : List (Int × Int)} {L : List (Ed × Value)} (h : GRw B w vL vE lives L) (hor : Int) :
    ∃ la lc ea ec, vL = .slice la lives.length lc ∧ vE = .slice ea L.length ec ∧ GAt w la ea ⟨hor, lives, L.map (·.1)⟩ ∧ lives.length ≤ lc ∧ lc ≤ 9223372036854775807 := by
  obtain ⟨la, lc, rfl, hlv⟩ := ivAt_of_owns h.lv
  obtain ⟨_, _, e1, n1, n2⟩ := row_form h.lv
  simp only [Value.slice.injEq] at e1
  obtain ⟨rfl, _, rfl⟩ := e1
  obtain ⟨ea, ec, rfl, n3, n4⟩ := row_form h.ed
  refine ⟨la, lc, ea, ec, rfl, rfl, ⟨hlv, ?_, by simp only; omega, by simp only [List.length_map]; omega⟩, n1, n2⟩
  rcases h.ed.2 with ⟨_, h0⟩ | ⟨g, cap, cur, e2, hb, hh, _⟩
  · exact .inl (by simp only; rw [List.eq_nil_of_length_eq_zero h0]; rfl)
  · simp only [Value.slice.injEq] at e2
    obtain ⟨rfl, _, rfl⟩ := e2
    refine .inr ⟨g, 0, rfl, (Array.getElem?_eq_some_iff.1 hh).1, fun j hj => ?_⟩
    have hj' : j < L.length := by simpa using hj
    obtain ⟨f0, f1, f2⟩ := encE_get L j hj'
    obtain ⟨a, c, hv, hl, m1, m2⟩ := lgAt_of_owns (h.lg L[j] (List.getElem_mem hj'))
    have ej : (L.map (·.1))[j] = L[j].1 := by simp
    unfold EdOne
    simp only [ej]
    rw [Nat.zero_add, h.ed.cellAt (j * 3) (by omega), h.ed.cellAt (j * 3 + 1) (by omega), h.ed.cellAt (j * 3 + 2) (by omega)]
    exact ⟨f0, f1, a, c, by rw [f2, hv], hl, m1, m2⟩

/-- what a graph's value is -/
def ReadAs (B : Nat) (w' : World) (v : Value) (g : Gr) : Prop := ∃ vL vE L, v = .agg #[.int .i64 g.hor, vL, vE] ∧ GRw B w' vL vE g.lives L ∧ g.edges = L.map (·.1)
theorem ReadAs.gat {B : Nat} {w : World} {v : Value} {g : Gr} (h : ReadAs B w v g) : ∃ la lc ea ec, v = .agg #[.int .i64 g.hor, .slice la g.lives.length lc, .slice ea g.edges.length ec] ∧ GAt w la ea g ∧ g.lives.length ≤ lc ∧ lc ≤ 9223372036854775807 := by
  obtain ⟨vL, vE, L, rfl, h, e⟩ := h
  obtain ⟨la, lc, ea, ec, rfl, rfl, hg, n1, n2⟩ := h.gat g.hor
  have hel : L.length = g.edges.length := by rw [e]; simp
  rw [← e] at hg
  exact ⟨la, lc, ea, ec, by rw [hel], hg, n1, n2⟩
theorem ReadAs.below {B : Nat} {w w' : World} {v : Value} {g : Gr} (h : ReadAs B w v g) (hb : Below w.heap.size w w') : ReadAs B w' v g := by
  obtain ⟨vL, vE, L, rfl, h, e⟩ := h
  exact ⟨vL, vE, L, rfl, h.below hb, e⟩
theorem ReadAs.base {B B' : Nat} {w : World} {v : Value} {g : Gr} (h : ReadAs B w v g) (hB : B' ≤ B) : ReadAs B' w v g := by
  obtain ⟨vL, vE, L, rfl, h, e⟩ := h
  exact ⟨vL, vE, L, rfl, h.base hB, e⟩
theorem ReadAs.setLow {B : Nat} {w : World} {v : Value} {g : Gr} (h : ReadAs B w v g) {R : Nat} (hR : R < B) (j : Nat) (u : Value) : ReadAs B (w.setCell ⟨R, j, none⟩ u) v g := by
  obtain ⟨vL, vE, L, rfl, h, e⟩ := h
  exact ⟨vL, vE, L, rfl, h.setLow hR j u, e⟩
theorem ReadAs.none (B : Nat) (w : World) : ReadAs B w (.agg #[.int .i64 0, .slice none 0 0, .slice none 0 0]) g0 :=
  ⟨_, _, [], rfl, ⟨World.ownsRow_nil _ _ _ _, World.ownsRow_nil _ _ _ _, fun p hp => by simp at hp⟩, rfl⟩

/-- Cut at the line's end -/
theorem Cut_any (s : ByteArray) (w : World) (hs : s.size ≤ 8192) {B : Nat} (hM : Ml B w) (a b : List UInt8) (c : Bool) (h : Lib.cut s.data.toList [10] = (a, b, c)) : Calls Tryd.prog 29 #[.string s, .string ⟨#[10]⟩] w fun e w' => e = .returned (.tuple #[.string ⟨a.toArray⟩, .string ⟨b.toArray⟩, .bool c]) ∧ Below w.heap.size w w' := by
  obtain ⟨m, hm⟩ := hM.cell
  refine (Tryd.strings_Cut s ⟨#[10]⟩ m w (by omega) hm).mono ?_
  rintro e w' ⟨rfl, n, rfl⟩
  have e1 : (⟨#[10]⟩ : ByteArray).data.toList = [10] := rfl
  rw [e1, h]
  exact ⟨rfl, below_drewN (Below.refl _ _) n⟩

/-- how long a text is -/
def strOf : Value → Nat
  | .string s => s.size
  | _ => 0

theorem rdP_one {g : Gr} {n : Nat} {first : Bool} {l : List UInt8} (h : ¬ (first = false ∧ l = [])) : rdP g n first [l] = .inr n := by rw [rdP, if_neg h]
theorem rdP_end (g : Gr) (n : Nat) : rdP g n false [[]] = .inl g := by rw [rdP, if_pos ⟨rfl, rfl⟩]
theorem rdP_bad {g : Gr} {n : Nat} {first : Bool} {l m : List UInt8} {r : List (List UInt8)} (h : lineOf g l first = none) : rdP g n first (l :: m :: r) = .inr n := by rw [rdP, h]
theorem rdP_go {g g' : Gr} {n : Nat} {first : Bool} {l m : List UInt8} {r : List (List UInt8)} (h : lineOf g l first = some g') : rdP g n first (l :: m :: r) = rdP g' (n + 1) false (m :: r) := by rw [rdP, h]

theorem read_fin {w wr : World} {g : Gr} (hG : GO (w.heap.size + 1) (w.heap.size + 1) wr g) (hb : Below (w.heap.size + 1) (w.alloc (.cells #[.int .i64 0, .slice none 0 0, .slice none 0 0] 25)) wr) :
    ∃ la lc ea ec, (wr.cell? ⟨w.heap.size + 1, 0, none⟩ = some (.int .i64 g.hor) ∧ wr.cell? ⟨w.heap.size + 1, 1, none⟩ = some (.slice la g.lives.length lc) ∧ wr.cell? ⟨w.heap.size + 1, 2, none⟩ = some (.slice ea g.edges.length ec)) ∧
      (wr.cell? ⟨w.heap.size, 0, none⟩ = some (.int .i64 0) ∧ wr.cell? ⟨w.heap.size, 1, none⟩ = some (.slice none 0 0) ∧ wr.cell? ⟨w.heap.size, 2, none⟩ = some (.slice none 0 0)) ∧ (∀ j, wr.frozen? ⟨w.heap.size, j, none⟩ = false) ∧
      ∀ a b c, ReadAs (w.heap.size + 1) (((wr.setCell ⟨w.heap.size, 0, none⟩ a).setCell ⟨w.heap.size, 1, none⟩ b).setCell ⟨w.heap.size, 2, none⟩ c) (.agg #[.int .i64 g.hor, .slice la g.lives.length lc, .slice ea g.edges.length ec]) g ∧ Below w.heap.size w (((wr.setCell ⟨w.heap.size, 0, none⟩ a).setCell ⟨w.heap.size, 1, none⟩ b).setCell ⟨w.heap.size, 2, none⟩ c) := by
  obtain ⟨vL, vE, L, hO, hL⟩ := hG
  obtain ⟨la, lc, ea, ec, rfl, rfl, _, _, _⟩ := hO.gat
  have hel : L.length = g.edges.length := by rw [hL]; simp
  rw [hel] at hO
  refine ⟨la, lc, ea, ec, ⟨by rw [Lib.cell_of_heap hO.box]; rfl, by rw [Lib.cell_of_heap hO.box]; rfl, by rw [Lib.cell_of_heap hO.box]; rfl⟩, ⟨?_, ?_, ?_⟩, fun j => ?_, fun a b c => ⟨?_, ?_⟩⟩
  · rw [hb.cell (p := ⟨w.heap.size, 0, none⟩) (by simp)]; simp
  · rw [hb.cell (p := ⟨w.heap.size, 1, none⟩) (by simp)]; simp
  · rw [hb.cell (p := ⟨w.heap.size, 2, none⟩) (by simp)]; simp
  · rw [hb.frozen (p := ⟨w.heap.size, j, none⟩) (by simp)]; simp
  · exact ⟨_, _, L, rfl, ((hO.rw.setLow (R := w.heap.size) (by omega) 0 a).setLow (R := w.heap.size) (by omega) 1 b).setLow (R := w.heap.size) (by omega) 2 c, hL⟩
  · have h0 : Below w.heap.size w wr := ptg (gal w _) (by simpa using hb)
    exact ((h0.setCell (p := ⟨w.heap.size, 0, none⟩) (Nat.le_refl _) a).setCell (p := ⟨w.heap.size, 1, none⟩) (Nat.le_refl _) b).setCell (p := ⟨w.heap.size, 2, none⟩) (Nat.le_refl _) c
theorem jn_size {r : ByteArray} {a m : List UInt8} {t : List (List UInt8)} (h : sp 10 r.data.toList = a :: m :: t) : a.length + 1 + (jn 10 (m :: t)).length = r.size := by
  have h1 := jn_sp 10 r.data.toList
  rw [h, jn_cons _ _ (by simp)] at h1
  have h2 := congrArg List.length h1
  have h3 : r.data.toList.length = r.size := by rw [Array.length_toList]; rfl
  rw [h3, List.length_append, List.length_cons] at h2
  omega
theorem fbk (k : Nat) : ((k : Int) + 1 == 1) = (k == 0) := by
  by_cases e : k = 0
  · subst e; rfl
  · have h1 : ((k : Int) + 1 == 1) = false := by rw [beq_eq_false_iff_ne]; omega
    have h2 : (k == 0) = false := by rw [beq_eq_false_iff_ne]; exact e
    rw [h1, h2]
theorem bsz (l : List UInt8) : (⟨l.toArray⟩ : ByteArray).size = l.length := by show l.toArray.size = _; simp

set_option linter.unusedSimpArgs false in
set_option maxRecDepth 100000 in
set_option maxHeartbeats 8000000 in
theorem read_any (s : ByteArray) (w : World) (hM : Ml w.heap.size w) (hs : s.size ≤ 8192) :
    Calls Tryd.prog 16 #[.string s] w fun e w' => ∃ (g : Gr) (n : Nat) (v : Value), e = .returned (.tuple #[v, .int .i64 n]) ∧ ReadAs w.heap.size w' v g ∧ Below w.heap.size w w' ∧ (rdP g0 1 true (sp 10 s.data.toList) = .inr n ∧ 1 ≤ n ∧ n ≤ 8193 ∨ rdP g0 1 true (sp 10 s.data.toList) = .inl g ∧ n = 0) := by
  have HM := hideg hM
  clear hM
  go_enter Tryd.func16, Tryd.ntmps16
  go_wp2
  go_loopw [0, 5] (fun sv i wr => ∃ (k : Nat) (r : ByteArray) (g : Gr), sv = .string r ∧ i = .int .i64 ((k : Int) + 1) ∧ k + r.size ≤ 8192 ∧ GO (w.heap.size + 1) (w.heap.size + 1) wr g ∧ Sm k g ∧ rdP g0 1 true (sp 10 s.data.toList) = rdP g (k + 1) (k == 0) (sp 10 r.data.toList) ∧ Below (w.heap.size + 1) (w.alloc (.cells #[.int .i64 0, .slice none 0 0, .slice none 0 0] 25)) wr) (fun sv _ _ => strOf sv)
  case atStart =>
    refine ⟨0, s, g0, rfl, rfl, by omega, ⟨_, _, [], GOwn.first _ _ _ (by have := heap_alloc_new (w.alloc (.cells #[.int .i64 0, .slice none 0 0, .slice none 0 0] 25)) (.cells #[.int .i64 0, .slice none 0 0, .slice none 0 0] 25); rwa [World.size_alloc] at this) (Nat.le_refl _), rfl⟩, ⟨by simp [g0], by simp [g0], by simp [g0]⟩, rfl, (Below.refl _ _).alloc (by simp) _⟩
  case round =>
    obtain ⟨k, r, g, rfl, rfl, hk, hG, hS, hR, hb⟩ := hrel
    have HG := hideg hG
    have HR := hideg hR
    have HBw := hideg hb
    have HS := hideg (hS.mono (N' := 10000) (by omega))
    have HSk := hideg hS
    have hsz := hb.size
    rw [World.size_alloc] at hsz
    have hMr : Ml (w.heap.size + 1) wr := by
      have := HM.out.below (gal w (.cells #[.int .i64 0, .slice none 0 0, .slice none 0 0] 25))
      exact (Ml.mono this (by omega)).below hb
    have HMr := hideg hMr
    clear hG hR hb hS hMr
    have HFin : Hid (∀ wr g, GO (w.heap.size + 1) (w.heap.size + 1) wr g → Below (w.heap.size + 1) (w.alloc (.cells #[.int .i64 0, .slice none 0 0, .slice none 0 0] 25)) wr → _) := fun wr g h1 h2 => read_fin (w := w) (wr := wr) (g := g) h1 h2
    by_cases hend : k ≠ 0 ∧ r.size = 0
    · have hE : r.toList = [] := by rw [bdl]; exact List.eq_nil_of_length_eq_zero (by rw [Array.length_toList]; exact hend.2)
      have HRR : Hid (rdP g0 1 true (sp 10 s.data.toList) = .inl g) := by
        show _ = _
        rw [HR.out, show (k == 0) = false by simpa using hend.1, ← bdl, hE]
        exact rdP_end _ _
      have hk1 : ¬ (k : Int) + 1 = 1 := by omega
      obtain ⟨la, lc, ea, ec, ⟨p0, p1, p2⟩, ⟨r0, r1, r2⟩, f0, hF⟩ := HFin.out wr g HG.out HBw.out
      have HF := hideg hF
      clear hF
      go_wp2
      refine bodyPost_ret (v := .tuple #[.agg #[.int .i64 g.hor, .slice la g.lives.length lc, .slice ea g.edges.length ec], .int .i64 0]) (by simp [results, Tryd.results16, go_sem, r0, r1, r2]) rfl ⟨g, 0, _, rfl, (HF.out _ _ _).1.base (by omega), (HF.out _ _ _).2, .inr ⟨HRR.out, rfl⟩⟩
    · have hgo : k = 0 ∨ (k ≠ 0 ∧ r.toList.isEmpty = false) := by
        by_cases e : k = 0
        · exact .inl e
        · refine .inr ⟨e, ?_⟩
          have : r.size ≠ 0 := fun q => hend ⟨e, q⟩
          rw [bdl]
          cases hl : r.data.toList with
          | nil =>
            have h3 : r.data.toList.length = r.size := by rw [Array.length_toList]; rfl
            rw [hl] at h3; simp at h3; omega
          | cons _ _ => rfl
      have HNE : Hid (∀ l, sp 10 r.data.toList = [l] → ¬ ((k == 0) = false ∧ l = [])) := by
        rintro l h ⟨h1, rfl⟩
        have h2 := jn_sp 10 r.data.toList
        rw [h] at h2
        have h3 : r.data.toList.length = r.size := by rw [Array.length_toList]; rfl
        rw [← h2] at h3
        simp [jn] at h3
        exact hend ⟨by simpa using h1, by omega⟩
      rcases cut_sp 10 r.data.toList with ⟨a, m, t, hsp, hcut, hsp2⟩ | ⟨hsp, hcut⟩
      · have HC := hideg (Cut_any r wr (by omega) HMr.out _ _ _ hcut)
        have hjs := jn_size hsp
        have HL : Hid (∀ fb, fb = (k == 0) → ∀ w', Below wr.heap.size wr w' → Calls Tryd.prog 30 #[.pointer (some ⟨w.heap.size + 1, 0, none⟩), .string ⟨a.toArray⟩, .bool fb] w' fun e w2 => e = .returned (.bool (lineOf g a (k == 0)).isSome) ∧ GO (w.heap.size + 1) (w.heap.size + 1) w2 ((lineOf g a (k == 0)).getD g) ∧ Below (w.heap.size + 1) (w.alloc (.cells #[.int .i64 0, .slice none 0 0, .slice none 0 0] 25)) w2) := by
          rintro fb rfl w' hb'
          refine (readLine_any _ _ g ⟨a.toArray⟩ (k == 0) w' (HG.out.below hb') (HMr.out.below (hb'.mono hsz)) (by rw [bsz]; omega) HS.out (Nat.le_trans hsz hb'.size)).mono ?_
          rintro e w2 ⟨h1, h2, h3⟩
          exact ⟨h1, h2, HBw.out.trans ((hb'.mono hsz).trans h3)⟩
        have HSP := hideg hsp
        have HSP2 := hideg hsp2
        clear hsp hcut hsp2 HNE
        cases hl : lineOf g a (k == 0) with
        | none =>
          have HRR : Hid (rdP g0 1 true (sp 10 s.data.toList) = .inr (k + 1)) := by
            show _ = _
            rw [HR.out, HSP.out]
            exact rdP_bad hl
          simp only [hl, Option.isSome_none, Option.getD_none] at HL
          clear HR hl hjs
          rcases hgo with rfl | ⟨hk0, hre⟩
          all_goals
            (try have hk1 : ¬ (k : Int) + 1 = 1 := by omega)
            go_wp2_with fail
            refine HC.out.mono ?_
            rintro e w1 ⟨rfl, hb1⟩
            go_wp2_with fail
            refine (HL.out _ (by first | rfl | exact fbk k) _ hb1).mono ?_
            rintro e w2 ⟨rfl, hg2, hb2⟩
            obtain ⟨la, lc, ea, ec, ⟨p0, p1, p2⟩, ⟨r0, r1, r2⟩, f0, hF⟩ := HFin.out w2 g hg2 hb2
            have HF := hideg hF
            clear hF hb1 hb2 hg2
            go_wp2
            refine bodyPost_ret (v := .tuple #[.agg #[.int .i64 g.hor, .slice la g.lives.length lc, .slice ea g.edges.length ec], .int .i64 _]) (by simp [results, Tryd.results16, go_sem, r0, r1, r2]) rfl ⟨g, _, _, rfl, (HF.out _ _ _).1.base (by omega), (HF.out _ _ _).2, .inl ⟨HRR.out, by omega, by omega⟩⟩
        | some g' =>
          have HRR : Hid (rdP g0 1 true (sp 10 s.data.toList) = rdP g' (k + 1 + 1) (k + 1 == 0) (sp 10 (⟨(jn 10 (m :: t)).toArray⟩ : ByteArray).data.toList)) := by
            show _ = _
            rw [HR.out, HSP.out, rdP_go hl]
            show _ = rdP g' (k + 1 + 1) false (sp 10 (jn 10 (m :: t)))
            rw [HSP2.out]
          have HS' := hideg (HSk.out.line hl)
          simp only [hl, Option.isSome_some, Option.getD_some] at HL
          clear HR hl
          rcases hgo with rfl | ⟨hk0, hre⟩
          all_goals
            (try have hk1 : ¬ (k : Int) + 1 = 1 := by omega)
            go_wp2_with fail
            refine HC.out.mono ?_
            rintro e w1 ⟨rfl, hb1⟩
            go_wp2_with fail
            refine (HL.out _ (by first | rfl | exact fbk k) _ hb1).mono ?_
            rintro e w2 ⟨rfl, hg2, hb2⟩
            clear hb1
            go_wp2
            go_roundw
            case rel => exact ⟨_, _, g', rfl, by go_num, by rw [bsz]; omega, hg2, HS'.out, HRR.out, hb2⟩
            case measure => simp only [strOf, bsz]; omega
      · have HC := hideg (Cut_any r wr (by omega) HMr.out _ _ _ hcut)
        have HRR : Hid (rdP g0 1 true (sp 10 s.data.toList) = .inr (k + 1)) := by
          show _ = _
          rw [HR.out, hsp]
          exact rdP_one (HNE.out _ hsp)
        clear hsp hcut HR HNE
        have HFn := hideg (fun w' (h : Below wr.heap.size wr w') => HFin.out w' g (HG.out.below h) (HBw.out.trans (h.mono hsz)))
        rcases hgo with rfl | ⟨hk0, hre⟩
        all_goals
          (try have hk1 : ¬ (k : Int) + 1 = 1 := by omega)
          go_wp2_with fail
          refine HC.out.mono ?_
          rintro e w' ⟨rfl, hb'⟩
          obtain ⟨la, lc, ea, ec, ⟨p0, p1, p2⟩, ⟨r0, r1, r2⟩, f0, hF⟩ := HFn.out w' hb'
          have HF := hideg hF
          clear hF hb'
          go_wp2
          refine bodyPost_ret (v := .tuple #[.agg #[.int .i64 g.hor, .slice la g.lives.length lc, .slice ea g.edges.length ec], .int .i64 _]) (by simp [results, Tryd.results16, go_sem, r0, r1, r2]) rfl ⟨g, _, _, rfl, (HF.out _ _ _).1.base (by omega), (HF.out _ _ _).2, .inl ⟨HRR.out, by omega, by omega⟩⟩

set_option linter.unusedSimpArgs false in
set_option maxRecDepth 100000 in
set_option maxHeartbeats 8000000 in
theorem Parse_any (s : ByteArray) (w : World) (hM : Ml w.heap.size w) :
    Calls Tryd.prog 6 #[.string s] w fun e w' => ∃ v, e = .returned (.tuple #[v, .int .i64 (parse s.data.toList).2.1, .int .i64 (parse s.data.toList).2.2]) ∧ ReadAs w.heap.size w' v (parse s.data.toList).1 ∧ Below w.heap.size w w' := by
  have hsz : s.data.toList.length = s.size := by rw [Array.length_toList]; rfl
  by_cases h8 : 8192 < s.size
  · have HP : Hid (parse s.data.toList = (g0, 0, 2)) := by show _ = _; unfold parse; rw [if_pos (by omega)]
    rw [HP.out]
    have h8' : (8192 : Int) < (s.size : Int) := by omega
    clear hsz
    have HB := hideg (gal w)
    go_enter Tryd.func6, Tryd.ntmps6
    go_wp2
    exact bodyPost_ret (v := .tuple #[.agg #[.int .i64 0, .slice none 0 0, .slice none 0 0], .int .i64 0, .int .i64 2]) (by simp [results, Tryd.results6, go_sem]) rfl ⟨_, rfl, ReadAs.none _ _, HB.out _⟩
  · have h8' : (s.size : Int) ≤ 8192 := by omega
    have HPn : Hid (∀ n, rdP g0 1 true (sp 10 s.data.toList) = .inr n → parse s.data.toList = (g0, (n : Int), 3)) := fun n h => by unfold parse; rw [if_neg (by omega), h]
    have HPg : Hid (∀ g, rdP g0 1 true (sp 10 s.data.toList) = .inl g → parse s.data.toList = if gChk g = 0 then (g, 0, 0) else (g0, 0, gChk g)) := fun g h => by unfold parse; rw [if_neg (by omega), h]
    have HRd : Hid (∀ o, Calls Tryd.prog 16 #[.string s] (w.alloc o) fun e w' => _) := fun o => read_any s (w.alloc o) ((hM.below (gal w o)).mono (by simp)) (by omega)
    clear hM hsz
    go_enter Tryd.func6, Tryd.ntmps6
    go_wp2_with fail
    refine (HRd.out _).mono ?_
    rintro e w1 ⟨g, n, v, rfl, hv, hb1, hrd⟩
    have HRD := hideg hrd
    rw [World.size_alloc] at hv
    have HV := hideg hv
    obtain ⟨la, lc, ea, ec, rfl, hga, _, _⟩ := hv.gat
    have HGA := hideg hga
    clear hga
    have r0 : w1.cell? ⟨w.heap.size, 0, none⟩ = some (.int .i64 0) := by rw [hb1.cell (p := ⟨w.heap.size, 0, none⟩) (by simp)]; simp
    have r1 : w1.cell? ⟨w.heap.size, 1, none⟩ = some (.slice none 0 0) := by rw [hb1.cell (p := ⟨w.heap.size, 1, none⟩) (by simp)]; simp
    have r2 : w1.cell? ⟨w.heap.size, 2, none⟩ = some (.slice none 0 0) := by rw [hb1.cell (p := ⟨w.heap.size, 2, none⟩) (by simp)]; simp
    have f0 : ∀ j, w1.frozen? ⟨w.heap.size, j, none⟩ = false := fun j => by rw [hb1.frozen (p := ⟨w.heap.size, j, none⟩) (by simp)]; simp
    have HB1 := hideg (ptg (gal w _) hb1)
    have hz1 : w.heap.size < w1.heap.size := by have := hb1.size; simp at this; omega
    clear hv hb1 HRd hrd
    have HBF : Hid (∀ w2, Below w1.heap.size w1 w2 → ∀ a b c, Below w.heap.size w (((w2.setCell ⟨w.heap.size, 0, none⟩ a).setCell ⟨w.heap.size, 1, none⟩ b).setCell ⟨w.heap.size, 2, none⟩ c)) := fun w2 h a b c =>
      (((ptg HB1.out h).setCell (p := ⟨w.heap.size, 0, none⟩) (Nat.le_refl _) a).setCell (p := ⟨w.heap.size, 1, none⟩) (Nat.le_refl _) b).setCell (p := ⟨w.heap.size, 2, none⟩) (Nat.le_refl _) c
    rcases HRD.out with ⟨h, hn1, hn2⟩ | ⟨h, rfl⟩
    · have HP := hideg (HPn.out n h)
      have hn1' : (0 : Int) < (n : Int) := by omega
      clear h
      go_wp2
      rw [HP.out]
      exact bodyPost_ret (v := .tuple #[.agg #[.int .i64 0, .slice none 0 0, .slice none 0 0], .int .i64 n, .int .i64 3]) (by simp [results, Tryd.results6, go_sem, r0, r1, r2, hz1]) rfl ⟨_, rfl, ReadAs.none _ _, (HBF.out w1 (Below.refl _ _) _ _ _).alloc (by simp; omega) _⟩
    · have HP := hideg (HPg.out g h)
      have hC := fun o => gCheck_any g la ea lc ec (w1.alloc o) (HGA.out.below (gal w1 o))
      clear h
      go_wp2_with fail
      refine (hC _).mono ?_
      rintro e w2 ⟨rfl, hb2⟩
      have HB2 := hideg (ptg (gal w1 _) hb2)
      have b0 : w2.cell? ⟨w1.heap.size, 0, none⟩ = some (.int .i64 g.hor) := by rw [hb2.cell (p := ⟨w1.heap.size, 0, none⟩) (by simp)]; simp
      have b1 : w2.cell? ⟨w1.heap.size, 1, none⟩ = some (.slice la g.lives.length lc) := by rw [hb2.cell (p := ⟨w1.heap.size, 1, none⟩) (by simp)]; simp
      have b2 : w2.cell? ⟨w1.heap.size, 2, none⟩ = some (.slice ea g.edges.length ec) := by rw [hb2.cell (p := ⟨w1.heap.size, 2, none⟩) (by simp)]; simp
      have s0 := (HB2.out.cell (p := ⟨w.heap.size, 0, none⟩) hz1).trans r0
      have s1 := (HB2.out.cell (p := ⟨w.heap.size, 1, none⟩) hz1).trans r1
      have s2 := (HB2.out.cell (p := ⟨w.heap.size, 2, none⟩) hz1).trans r2
      have g0' : ∀ j, w2.frozen? ⟨w.heap.size, j, none⟩ = false := fun j => (HB2.out.frozen (p := ⟨w.heap.size, j, none⟩) hz1).trans (f0 j)
      clear hb2 hC r0 r1 r2 f0
      by_cases h0 : gChk g = 0
      · rw [if_pos h0] at HP
        have HR : Hid (∀ a b c, ReadAs (w.heap.size + 1) (((w2.setCell ⟨w.heap.size, 0, none⟩ a).setCell ⟨w.heap.size, 1, none⟩ b).setCell ⟨w.heap.size, 2, none⟩ c) (.agg #[.int .i64 g.hor, .slice la g.lives.length lc, .slice ea g.edges.length ec]) g) := fun a b c => (((HV.out.below HB2.out).setLow (R := w.heap.size) (by omega) 0 a).setLow (R := w.heap.size) (by omega) 1 b).setLow (R := w.heap.size) (by omega) 2 c
        go_wp2
        rw [HP.out]
        exact bodyPost_ret (v := .tuple #[.agg #[.int .i64 g.hor, .slice la g.lives.length lc, .slice ea g.edges.length ec], .int .i64 0, .int .i64 0]) (by simp [results, Tryd.results6, go_sem, s0, s1, s2]) rfl ⟨_, rfl, (HR.out _ _ _).base (by omega), HBF.out w2 HB2.out _ _ _⟩
      · rw [if_neg h0] at HP
        go_wp2
        rw [HP.out]
        exact bodyPost_ret (v := .tuple #[.agg #[.int .i64 0, .slice none 0 0, .slice none 0 0], .int .i64 0, .int .i64 (gChk g)]) (by simp [results, Tryd.results6, go_sem, s0, s1, s2]) rfl ⟨_, rfl, ReadAs.none _ _, HBF.out w2 HB2.out _ _ _⟩

end Go.Proofs.YtjjhhmlogddnkaiDoor

namespace Go.Proofs.YtjjhhmlogddnkaiDoor

/-- an arc: from, to, cost -/
abbrev Ac := Int × Int × Int
/-- what is told of a vertex -/
def vat (x : List Int) (v : Int) : Int := x.getD v.toNat 0

/-- numbers that no arc makes less, none above what is told at first -/
structure Adm (first : List Int) (arcs : List Ac) (p : Ac → Int) (y : Nat → Int) : Prop where
  le : ∀ v, v < first.length → y v ≤ first.getD v 0
  cl : ∀ a ∈ arcs, y a.2.1.toNat ≤ y a.1.toNat + p a
/-- what is told on the way -/
structure Mid (first : List Int) (arcs : List Ac) (p : Ac → Int) (x : List Int) : Prop where
  len : x.length = first.length
  le : ∀ v, v < first.length → x.getD v 0 ≤ first.getD v 0
  most : ∀ y, Adm first arcs p y → ∀ v, v < first.length → y v ≤ x.getD v 0
/-- what is told in the end -/
structure Best (first : List Int) (arcs : List Ac) (p : Ac → Int) (x : List Int) : Prop where
  mid : Mid first arcs p x
  cl : ∀ a ∈ arcs, vat x a.2.1 ≤ vat x a.1 + p a

theorem mid_start (first : List Int) (arcs : List Ac) (p : Ac → Int) : Mid first arcs p first := ⟨rfl, fun _ _ => Int.le_refl _, fun _ h v hv => h.le v hv⟩
theorem getD_set (x : List Int) (k v : Nat) (m : Int) (hk : k < x.length) : (x.set k m).getD v 0 = if v = k then m else x.getD v 0 := by
  simp only [List.getD_eq_getElem?_getD, List.getElem?_set]
  by_cases h : k = v
  · subst h; simp [hk]
  · have : ¬ v = k := fun e => h e.symm
    simp [h, this]
theorem mid_set {first : List Int} {arcs : List Ac} {p : Ac → Int} {x : List Int} {k : Nat} {m : Int} (h : Mid first arcs p x) (hk : k < first.length) (hm : m ≤ x.getD k 0) (ha : ∀ y, Adm first arcs p y → y k ≤ m) : Mid first arcs p (x.set k m) := by
  have hk' : k < x.length := by rw [h.len]; exact hk
  refine ⟨by rw [List.length_set]; exact h.len, fun v hv => ?_, fun y hy v hv => ?_⟩
  · rw [getD_set _ _ _ _ hk']
    by_cases e : v = k
    · rw [if_pos e]; subst e; exact Int.le_trans hm (h.le v hv)
    · rw [if_neg e]; exact h.le v hv
  · rw [getD_set _ _ _ _ hk']
    by_cases e : v = k
    · rw [if_pos e]; subst e; exact ha y hy
    · rw [if_neg e]; exact h.most y hy v hv
/-- an arc's ends are vertices -/
def EndsIn (n : Nat) (arcs : List Ac) : Prop := ∀ a ∈ arcs, 0 ≤ a.1 ∧ a.1 < n ∧ 0 ≤ a.2.1 ∧ a.2.1 < n
/-- what an arc tells is no less than what may be told -/
theorem mid_arc {first : List Int} {arcs : List Ac} {p : Ac → Int} {x : List Int} {a : Ac} (h : Mid first arcs p x) (ha : a ∈ arcs) (hE : EndsIn first.length arcs) : ∀ y, Adm first arcs p y → y a.2.1.toNat ≤ vat x a.1 + p a := by
  intro y hy
  have h1 := hy.cl a ha
  have h2 := h.most y hy a.1.toNat (by have := hE a ha; omega)
  unfold vat; omega
theorem best_le {first : List Int} {arcs : List Ac} {p : Ac → Int} {x x' : List Int} (h : Best first arcs p x) (h' : Mid first arcs p x') : ∀ v, v < first.length → x.getD v 0 ≤ x'.getD v 0 :=
  h'.most (fun v => x.getD v 0) ⟨h.mid.le, h.cl⟩
theorem best_unique {first : List Int} {arcs : List Ac} {p : Ac → Int} {x x' : List Int} (h : Best first arcs p x) (h' : Best first arcs p x') : x = x' := by
  apply List.ext_getElem (by rw [h.mid.len, h'.mid.len])
  intro i h1 h2
  have a := best_le h h'.mid i (by rw [← h.mid.len]; exact h1)
  have b := best_le h' h.mid i (by rw [← h.mid.len]; exact h1)
  simp only [List.getD_eq_getElem?_getD, List.getElem?_eq_getElem h1, List.getElem?_eq_getElem h2, Option.getD_some] at a b
  omega
/-- other arcs that tell the same -/
theorem best_arcs {first : List Int} {arcs arcs' : List Ac} {p p' : Ac → Int} {x : List Int} (h : Best first arcs p x) (hs : ∀ y : Nat → Int, (∀ a ∈ arcs, y a.2.1.toNat ≤ y a.1.toNat + p a) ↔ ∀ a ∈ arcs', y a.2.1.toNat ≤ y a.1.toNat + p' a) : Best first arcs' p' x :=
  ⟨⟨h.mid.len, h.mid.le, fun y hy => h.mid.most y ⟨hy.le, (hs y).2 hy.cl⟩⟩, (hs fun v => x.getD v 0).1 h.cl⟩
theorem mid_arcs {first : List Int} {arcs arcs' : List Ac} {p p' : Ac → Int} {x : List Int} (h : Mid first arcs p x) (hs : ∀ y : Nat → Int, (∀ a ∈ arcs, y a.2.1.toNat ≤ y a.1.toNat + p a) ↔ ∀ a ∈ arcs', y a.2.1.toNat ≤ y a.1.toNat + p' a) : Mid first arcs' p' x :=
  ⟨h.len, h.le, fun y hy => h.most y ⟨hy.le, (hs y).2 hy.cl⟩⟩

/-- numbers of a first row and prices that are fine -/
structure Fine (first : List Int) (arcs : List Ac) (p : Ac → Int) : Prop where
  lo : ∀ v, v < first.length → 0 ≤ first.getD v 0
  hi : ∀ v, v < first.length → first.getD v 0 ≤ 1099511627776
  pl : ∀ a ∈ arcs, 0 ≤ p a ∧ p a ≤ 1000
  en : EndsIn first.length arcs
theorem Mid.lo {first : List Int} {arcs : List Ac} {p : Ac → Int} {x : List Int} (h : Mid first arcs p x) (f : Fine first arcs p) (v : Nat) (hv : v < first.length) : 0 ≤ x.getD v 0 :=
  h.most (fun _ => 0) ⟨f.lo, fun a ha => by have := f.pl a ha; show (0 : Int) ≤ 0 + p a; omega⟩ v hv
theorem Mid.hi {first : List Int} {arcs : List Ac} {p : Ac → Int} {x : List Int} (h : Mid first arcs p x) (f : Fine first arcs p) (v : Nat) (hv : v < first.length) : x.getD v 0 ≤ 1099511627776 := Int.le_trans (h.le v hv) (f.hi v hv)
theorem Mid.bounds {first : List Int} {arcs : List Ac} {p : Ac → Int} {x : List Int} (h : Mid first arcs p x) (f : Fine first arcs p) : ∀ z ∈ x, 0 ≤ z ∧ z ≤ 1099511627776 := by
  intro z hz
  obtain ⟨i, hi, rfl⟩ := List.getElem_of_mem hz
  have a := h.lo f i (by rw [← h.len]; exact hi)
  have b := h.hi f i (by rw [← h.len]; exact hi)
  simp only [List.getD_eq_getElem?_getD, List.getElem?_eq_getElem hi, Option.getD_some] at a b
  exact ⟨a, b⟩

/-- how much there is in all -/
def msum : List Int → Nat
  | [] => 0
  | z :: l => z.toNat + msum l
theorem msum_set : ∀ (x : List Int) (k : Nat) (m : Int), 0 ≤ m → k < x.length → m < x.getD k 0 → msum (x.set k m) < msum x
  | [], _, _, _, h, _ => by simp at h
  | z :: l, 0, m, h0, _, h => by simp at h; simp [msum]; omega
  | z :: l, k + 1, m, h0, hk, h => by
    have := msum_set l k m h0 (by simpa using hk) (by simpa using h)
    simp [msum]; omega
theorem msum_le : ∀ (x y : List Int), x.length = y.length → (∀ v, v < x.length → x.getD v 0 ≤ y.getD v 0) → msum x ≤ msum y
  | [], [], _, _ => Nat.le_refl _
  | a :: x, [], h, _ => by simp at h
  | [], b :: y, h, _ => by simp at h
  | a :: x, b :: y, h, hl => by
    have h1 := msum_le x y (by simpa using h) (fun v hv => by have := hl (v + 1) (by simpa using hv); simpa using this)
    have h2 := hl 0 (by simp)
    simp at h2
    simp [msum]; omega
theorem msum_lt : ∀ (x y : List Int), x.length = y.length → (∀ z ∈ x, 0 ≤ z) → (∀ v, v < x.length → x.getD v 0 ≤ y.getD v 0) → x ≠ y → msum x < msum y
  | [], [], _, _, _, h => absurd rfl h
  | a :: x, [], h, _, _, _ => by simp at h
  | [], b :: y, h, _, _, _ => by simp at h
  | a :: x, b :: y, h, h0, hl, hn => by
    have h2 := hl 0 (by simp)
    simp at h2
    have ha : 0 ≤ a := h0 a (by simp)
    have hl' : ∀ v, v < x.length → x.getD v 0 ≤ y.getD v 0 := fun v hv => by have := hl (v + 1) (by simpa using hv); simpa using this
    by_cases e : x = y
    · subst e
      have : a ≠ b := fun h => hn (by rw [h])
      simp [msum]; omega
    · have h1 := msum_lt x y (by simpa using h) (fun z hz => h0 z (by simp [hz])) hl' e
      simp [msum]; omega
theorem msum_bound : ∀ (x : List Int), (∀ z ∈ x, z ≤ 1099511627776) → msum x ≤ x.length * 1099511627776
  | [], _ => by simp [msum]
  | a :: x, h => by
    have h1 := msum_bound x (fun z hz => h z (by simp [hz]))
    have h2 := h a (by simp)
    simp only [msum, List.length_cons]; omega

/-- one arc of the program's way: what is told at once is told on -/
def Seen (arcs : List Ac) (p : Ac → Int) (x : List Int) (i : Nat) : Prop := ∀ j, (h : j < arcs.length) → j < i → vat x arcs[j].2.1 ≤ vat x arcs[j].1 + p arcs[j]
/-- a round of the program: x at its begin, z behind i arcs; ch: has something turned? -/
structure Turn (first : List Int) (arcs : List Ac) (p : Ac → Int) (x z : List Int) (ch : Bool) (i : Nat) : Prop where
  mid : Mid first arcs p z
  same : ch = false → z = x ∧ Seen arcs p x i
  less : ch = true → msum z < msum x
theorem turn_start {first : List Int} {arcs : List Ac} {p : Ac → Int} {x : List Int} (h : Mid first arcs p x) : Turn first arcs p x x false 0 := ⟨h, fun _ => ⟨rfl, fun _ _ h => by omega⟩, fun h => by simp at h⟩
theorem turn_stay {first : List Int} {arcs : List Ac} {p : Ac → Int} {x z : List Int} {ch : Bool} {i : Nat} (T : Turn first arcs p x z ch i) (hi : i < arcs.length) (hn : ¬ vat z arcs[i].1 + p arcs[i] < vat z arcs[i].2.1) : Turn first arcs p x z ch (i + 1) := by
  refine ⟨T.mid, fun h => ⟨(T.same h).1, fun j hj hji => ?_⟩, T.less⟩
  by_cases e : j = i
  · subst e; rw [← (T.same h).1]; omega
  · exact (T.same h).2 j hj (by omega)
theorem turn_less {first : List Int} {arcs : List Ac} {p : Ac → Int} {x z : List Int} {ch : Bool} {i : Nat} (f : Fine first arcs p) (T : Turn first arcs p x z ch i) (hi : i < arcs.length) (hn : vat z arcs[i].1 + p arcs[i] < vat z arcs[i].2.1) : Turn first arcs p x (z.set arcs[i].2.1.toNat (vat z arcs[i].1 + p arcs[i])) true (i + 1) := by
  have hm : arcs[i] ∈ arcs := List.getElem_mem hi
  have he := f.en _ hm
  have hp := f.pl _ hm
  have hB : arcs[i].2.1.toNat < first.length := by omega
  have h0 : 0 ≤ vat z arcs[i].1 := T.mid.lo f _ (by omega)
  have hs := msum_set z arcs[i].2.1.toNat (vat z arcs[i].1 + p arcs[i]) (by omega) (by rw [T.mid.len]; exact hB) hn
  refine ⟨mid_set T.mid hB (by unfold vat at hn ⊢; omega) (mid_arc T.mid hm f.en), fun h => by simp at h, fun _ => ?_⟩
  cases hc : ch
  · rw [(T.same hc).1] at hs ⊢; exact hs
  · exact Nat.lt_trans hs (T.less hc)
theorem turn_end {first : List Int} {arcs : List Ac} {p : Ac → Int} {x z : List Int} (T : Turn first arcs p x z false arcs.length) : Best first arcs p z := by
  obtain ⟨rfl, hs⟩ := T.same rfl
  refine ⟨T.mid, fun a ha => ?_⟩
  obtain ⟨i, hi, rfl⟩ := List.getElem_of_mem ha
  exact hs i hi hi

/-- one arc of the reference's round: x at its begin, z so far -/
def rel1 (p : Ac → Int) (back : Bool) (x z : List Int) (a : Ac) : List Int :=
  let z1 := z.set a.2.1.toNat (min (vat z a.2.1) (vat x a.1 + p a))
  if back = true then z1.set a.1.toNat (min (vat z1 a.1) (vat x a.2.1 + p a)) else z1
/-- a round of the reference -/
def rnd (arcs : List Ac) (p : Ac → Int) (back : Bool) (x : List Int) : List Int := arcs.foldl (rel1 p back x) x
/-- some rounds -/
def rnds (arcs : List Ac) (p : Ac → Int) (back : Bool) : Nat → List Int → List Int
  | 0, x => x
  | k + 1, x => rnd arcs p back (rnds arcs p back k x)
/-- the arcs both ways round -/
def bothW (arcs : List Ac) : List Ac := arcs.flatMap fun a => [a, (a.2.1, a.1, a.2.2)]
def ways (back : Bool) (arcs : List Ac) : List Ac := if back = true then bothW arcs else arcs
theorem mem_both {arcs : List Ac} {b : Ac} : b ∈ bothW arcs ↔ ∃ a ∈ arcs, b = a ∨ b = (a.2.1, a.1, a.2.2) := by simp [bothW]
/-- a price that is the same either way round -/
def Even (p : Ac → Int) : Prop := ∀ a : Ac, p (a.2.1, a.1, a.2.2) = p a
theorem both_take (arcs : List Ac) (k : Nat) (hk : k < arcs.length) : bothW (arcs.take (k + 1)) = bothW (arcs.take k) ++ [arcs[k], (arcs[k].2.1, arcs[k].1, arcs[k].2.2)] := by
  unfold bothW
  rw [List.take_succ_eq_append_getElem hk, List.flatMap_append, List.flatMap_singleton]
theorem both_length : ∀ arcs : List Ac, (bothW arcs).length = arcs.length * 2
  | [] => rfl
  | a :: l => by
    have := both_length l
    unfold bothW at this ⊢
    rw [List.flatMap_cons, List.length_append, this]; simp; omega

theorem rel1_length (p : Ac → Int) (back : Bool) (x z : List Int) (a : Ac) : (rel1 p back x z a).length = z.length := by
  unfold rel1; cases back <;> simp
theorem foldl_rel1_length (p : Ac → Int) (back : Bool) (x : List Int) : ∀ (l : List Ac) (z : List Int), (l.foldl (rel1 p back x) z).length = z.length
  | [], _ => rfl
  | a :: l, z => by rw [List.foldl_cons, foldl_rel1_length p back x l, rel1_length]
theorem rnd_length (arcs : List Ac) (p : Ac → Int) (back : Bool) (x : List Int) : (rnd arcs p back x).length = x.length := foldl_rel1_length _ _ _ _ _
theorem rnds_length (arcs : List Ac) (p : Ac → Int) (back : Bool) : ∀ (k : Nat) (x : List Int), (rnds arcs p back k x).length = x.length
  | 0, _ => rfl
  | k + 1, x => by rw [rnds, rnd_length, rnds_length arcs p back k]
theorem fold_take (arcs : List Ac) (p : Ac → Int) (back : Bool) (x : List Int) (i : Nat) (hi : i < arcs.length) : (arcs.take (i + 1)).foldl (rel1 p back x) x = rel1 p back x ((arcs.take i).foldl (rel1 p back x) x) arcs[i] := by
  rw [List.take_succ_eq_append_getElem hi, List.foldl_append]; rfl

/-- what holds while a round of the reference goes on -/
structure Rn (first : List Int) (arcs : List Ac) (p : Ac → Int) (back : Bool) (x z : List Int) (i : Nat) : Prop where
  mid : Mid first (ways back arcs) p z
  le : ∀ v, v < first.length → z.getD v 0 ≤ x.getD v 0
  told : ∀ j, (h : j < arcs.length) → j < i → vat z arcs[j].2.1 ≤ vat x arcs[j].1 + p arcs[j] ∧ (back = true → vat z arcs[j].1 ≤ vat x arcs[j].2.1 + p arcs[j])
theorem mem_ways {back : Bool} {arcs : List Ac} {a : Ac} (h : a ∈ arcs) : a ∈ ways back arcs ∧ (back = true → (a.2.1, a.1, a.2.2) ∈ ways back arcs) := by
  unfold ways
  cases back
  · exact ⟨h, fun h => by simp at h⟩
  · exact ⟨mem_both.2 ⟨a, h, .inl rfl⟩, fun _ => mem_both.2 ⟨a, h, .inr rfl⟩⟩
theorem rn_start {first : List Int} {arcs : List Ac} {p : Ac → Int} {back : Bool} {x : List Int} (h : Mid first (ways back arcs) p x) : Rn first arcs p back x x 0 := ⟨h, fun _ _ => Int.le_refl _, fun _ _ h => by omega⟩
theorem vat_set {x : List Int} {k : Nat} {m v : Int} (hk : k < x.length) : vat (x.set k m) v = if v.toNat = k then m else vat x v := by unfold vat; exact getD_set _ _ _ _ hk
theorem rn_next {first : List Int} {arcs : List Ac} {p : Ac → Int} {back : Bool} {x z : List Int} {i : Nat} (f : Fine first (ways back arcs) p) (he : back = true → Even p) (hx : Mid first (ways back arcs) p x) (R : Rn first arcs p back x z i) (hi : i < arcs.length) : Rn first arcs p back x (rel1 p back x z arcs[i]) (i + 1) := by
  have hm : arcs[i] ∈ arcs := List.getElem_mem hi
  obtain ⟨hw, hw2⟩ := mem_ways (back := back) hm
  have en := f.en _ hw
  have k1 : arcs[i].2.1.toNat < first.length := by omega
  have k2 : arcs[i].1.toNat < first.length := by omega
  have M1 : Mid first (ways back arcs) p (z.set arcs[i].2.1.toNat (min (vat z arcs[i].2.1) (vat x arcs[i].1 + p arcs[i]))) := by
    refine mid_set R.mid k1 (by unfold vat; omega) (fun y hy => ?_)
    have h1 := mid_arc hx hw f.en y hy
    have h2 := R.mid.most y hy _ k1
    unfold vat at h1 ⊢; omega
  have L1 : ∀ v, v < first.length → (z.set arcs[i].2.1.toNat (min (vat z arcs[i].2.1) (vat x arcs[i].1 + p arcs[i]))).getD v 0 ≤ z.getD v 0 := by
    intro v hv
    rw [getD_set _ _ _ _ (by rw [R.mid.len]; exact k1)]
    by_cases e : v = arcs[i].2.1.toNat
    · rw [if_pos e, e]; unfold vat; omega
    · rw [if_neg e]; exact Int.le_refl _
  have V1 : vat (z.set arcs[i].2.1.toNat (min (vat z arcs[i].2.1) (vat x arcs[i].1 + p arcs[i]))) arcs[i].2.1 ≤ vat x arcs[i].1 + p arcs[i] := by
    rw [vat_set (by rw [R.mid.len]; exact k1), if_pos rfl]; omega
  unfold rel1
  generalize z.set arcs[i].2.1.toNat (min (vat z arcs[i].2.1) (vat x arcs[i].1 + p arcs[i])) = z1 at M1 L1 V1 ⊢
  have T1 : ∀ j, (h : j < arcs.length) → j < i + 1 → vat z1 arcs[j].2.1 ≤ vat x arcs[j].1 + p arcs[j] := by
    intro j hj hji
    by_cases e : j = i
    · subst e; exact V1
    · have hj2 := mem_ways (back := back) (List.getElem_mem hj)
      have := (R.told j hj (by omega)).1
      have h3 := L1 arcs[j].2.1.toNat (by have := f.en _ hj2.1; omega)
      unfold vat at this ⊢; omega
  cases back
  · simp only [Bool.false_eq_true, if_false]
    exact ⟨M1, fun v hv => Int.le_trans (L1 v hv) (R.le v hv), fun j hj hji => ⟨T1 j hj hji, fun h => by simp at h⟩⟩
  · simp only [if_true]
    have hev := he rfl
    have L2 : ∀ v, v < first.length → (z1.set arcs[i].1.toNat (min (vat z1 arcs[i].1) (vat x arcs[i].2.1 + p arcs[i]))).getD v 0 ≤ z1.getD v 0 := by
      intro v hv
      rw [getD_set _ _ _ _ (by rw [M1.len]; exact k2)]
      by_cases e : v = arcs[i].1.toNat
      · rw [if_pos e, e]; unfold vat; omega
      · rw [if_neg e]; exact Int.le_refl _
    refine ⟨mid_set M1 k2 (by unfold vat; omega) (fun y hy => ?_), fun v hv => Int.le_trans (L2 v hv) (Int.le_trans (L1 v hv) (R.le v hv)), fun j hj hji => ⟨?_, fun _ => ?_⟩⟩
    · have h1 := mid_arc hx (hw2 rfl) f.en y hy
      have h2 := M1.most y hy _ k2
      simp only [hev arcs[i]] at h1
      unfold vat at h1 ⊢; omega
    · have h1 := T1 j hj hji
      have hj2 := mem_ways (back := true) (List.getElem_mem hj)
      have h3 := L2 arcs[j].2.1.toNat (by have := f.en _ hj2.1; omega)
      unfold vat at h1 h3 ⊢; omega
    · by_cases e : j = i
      · subst e; rw [vat_set (by rw [M1.len]; exact k2), if_pos rfl]; omega
      · have hj2 := mem_ways (back := true) (List.getElem_mem hj)
        have h1 := (R.told j hj (by omega)).2 rfl
        have h4 := L1 arcs[j].1.toNat (by have := f.en _ hj2.1; omega)
        have h3 := L2 arcs[j].1.toNat (by have := f.en _ hj2.1; omega)
        unfold vat at h1 h3 h4 ⊢; omega
theorem rn_fold {first : List Int} {arcs : List Ac} {p : Ac → Int} {back : Bool} {x : List Int} (f : Fine first (ways back arcs) p) (he : back = true → Even p) (hx : Mid first (ways back arcs) p x) : ∀ i, i ≤ arcs.length → Rn first arcs p back x ((arcs.take i).foldl (rel1 p back x) x) i
  | 0, _ => by rw [List.take_zero]; exact rn_start hx
  | i + 1, h => by rw [fold_take _ _ _ _ _ (by omega)]; exact rn_next f he hx (rn_fold f he hx i (by omega)) (by omega)
theorem rn_round {first : List Int} {arcs : List Ac} {p : Ac → Int} {back : Bool} {x : List Int} (f : Fine first (ways back arcs) p) (he : back = true → Even p) (hx : Mid first (ways back arcs) p x) : Rn first arcs p back x (rnd arcs p back x) arcs.length := by
  have := rn_fold f he hx arcs.length (Nat.le_refl _)
  rw [List.take_length] at this; exact this
/-- where a round tells what was told nothing gets less -/
theorem rnd_end {first : List Int} {arcs : List Ac} {p : Ac → Int} {back : Bool} {x : List Int} (f : Fine first (ways back arcs) p) (he : back = true → Even p) (hx : Mid first (ways back arcs) p x) (h : rnd arcs p back x = x) : Best first (ways back arcs) p x := by
  have R := rn_round f he hx
  rw [h] at R
  refine ⟨hx, fun b hb => ?_⟩
  have go : ∀ a ∈ arcs, vat x a.2.1 ≤ vat x a.1 + p a ∧ (back = true → vat x a.1 ≤ vat x a.2.1 + p a) := by
    intro a ha
    obtain ⟨i, hi, rfl⟩ := List.getElem_of_mem ha
    exact R.told i hi hi
  unfold ways at hb
  cases back
  · simp only [Bool.false_eq_true, if_false] at hb; exact (go b hb).1
  · simp only [if_true] at hb
    obtain ⟨a, ha, rfl | rfl⟩ := mem_both.1 hb
    · exact (go _ ha).1
    · have := (go a ha).2 rfl
      rw [he rfl a]; exact this
theorem rnd_less {first : List Int} {arcs : List Ac} {p : Ac → Int} {back : Bool} {x : List Int} (f : Fine first (ways back arcs) p) (he : back = true → Even p) (hx : Mid first (ways back arcs) p x) (h : ¬ rnd arcs p back x = x) : msum (rnd arcs p back x) < msum x := by
  have R := rn_round f he hx
  exact msum_lt _ _ (by rw [R.mid.len, hx.len]) (fun z hz => (R.mid.bounds f z hz).1) (fun v hv => R.le v (by rw [← R.mid.len]; exact hv)) h

end Go.Proofs.YtjjhhmlogddnkaiDoor

namespace Go.Proofs.YtjjhhmlogddnkaiDoor

/-- does t lie from a to b - 1? -/
def hasB (a b t : Int) : Bool := decide (a ≤ t) && decide (t < b)
/-- the leg of some legs that has t -/
def lgFind (t : Int) : List Lg → Option Lg
  | [] => none
  | l :: ls => if hasB l.1 l.2.1 t = true then some l else lgFind t ls
/-- which vertices are alive -/
def aliveL (t : Int) (lives : List (Int × Int)) : List Bool := lives.map fun p => hasB p.1 p.2 t
/-- is the vertex v alive? -/
def aliveB (t : Int) (lives : List (Int × Int)) (v : Int) : Bool := (aliveL t lives).getD v.toNat false
/-- the arc of an edge, if it has one -/
def arcOf (t : Int) (lives : List (Int × Int)) (e : Ed) : List (Int × Int × Int) :=
  match lgFind t e.2.2 with
  | none => []
  | some l => if (aliveB t lives e.1 && aliveB t lives e.2.1) = true then [(e.1, e.2.1, l.2.2.2)] else []
def arcsL (t : Int) (lives : List (Int × Int)) (edges : List Ed) : List (Int × Int × Int) := edges.flatMap (arcOf t lives)
/-- the error that At tells -/
def atErr (g : Gr) (t : Int) : Int := if gChk g = 0 then (if inR t 0 (g.hor - 1) = true then 0 else 1) else gChk g

theorem hasB_iff (a b t : Int) : hasB a b t = true ↔ a ≤ t ∧ t < b := by unfold hasB; simp
theorem hasB_no {a b t : Int} (h : ¬ (a ≤ t ∧ t < b)) : hasB a b t = false := by rw [← Bool.not_eq_true, hasB_iff]; exact h
theorem lgFind_hit {t : Int} {l : List Lg} {k : Nat} (hk : k < l.length) (hI : lgFind t l = lgFind t (l.drop k)) (h : hasB l[k].1 l[k].2.1 t = true) : lgFind t l = some l[k] := by
  rw [hI, drop_get l k hk, lgFind, if_pos h]
theorem lgFind_next {t : Int} {l : List Lg} {k : Nat} (hk : k < l.length) (hI : lgFind t l = lgFind t (l.drop k)) (h : hasB l[k].1 l[k].2.1 t = false) : lgFind t l = lgFind t (l.drop (k + 1)) := by
  rw [hI, drop_get l k hk, lgFind, if_neg (by simp [h])]
theorem lgFind_end {t : Int} {l : List Lg} (hI : lgFind t l = lgFind t (l.drop l.length)) : lgFind t l = none := by rw [hI, List.drop_length]; rfl
theorem aliveL_length (t : Int) (lives : List (Int × Int)) : (aliveL t lives).length = lives.length := by simp [aliveL]
theorem aliveL_take (t : Int) (lives : List (Int × Int)) (k : Nat) (hk : k < lives.length) : aliveL t (lives.take (k + 1)) = aliveL t (lives.take k) ++ [hasB lives[k].1 lives[k].2 t] := by
  unfold aliveL; rw [List.take_succ_eq_append_getElem hk, List.map_append]; rfl
theorem aliveB_at (t : Int) (lives : List (Int × Int)) (v : Nat) (h : v < lives.length) : aliveB t lives v = hasB lives[v].1 lives[v].2 t := by
  unfold aliveB aliveL
  rw [Int.toNat_natCast, List.getD_eq_getElem?_getD, List.getElem?_map, List.getElem?_eq_getElem h]; rfl
theorem arcs_take (t : Int) (lives : List (Int × Int)) (edges : List Ed) (k : Nat) (hk : k < edges.length) : arcsL t lives (edges.take (k + 1)) = arcsL t lives (edges.take k) ++ arcOf t lives edges[k] := by
  unfold arcsL
  rw [List.take_succ_eq_append_getElem hk, List.flatMap_append, List.flatMap_singleton]
theorem arcOf_none {t : Int} {lives : List (Int × Int)} {e : Ed} (h : lgFind t e.2.2 = none) : arcOf t lives e = [] := by unfold arcOf; rw [h]
theorem arcOf_dead {t : Int} {lives : List (Int × Int)} {e : Ed} (h : (aliveB t lives e.1 && aliveB t lives e.2.1) = false) : arcOf t lives e = [] := by
  unfold arcOf
  cases lgFind t e.2.2 with
  | none => rfl
  | some l => simp only [h]; rfl
theorem arcOf_some {t : Int} {lives : List (Int × Int)} {e : Ed} {l : Lg} (h : lgFind t e.2.2 = some l) (k : (aliveB t lives e.1 && aliveB t lives e.2.1) = true) : arcOf t lives e = [(e.1, e.2.1, l.2.2.2)] := by
  unfold arcOf; rw [h]; simp only [k, if_true]
theorem arcOf_len (t : Int) (lives : List (Int × Int)) (e : Ed) : (arcOf t lives e).length ≤ 1 := by
  unfold arcOf
  split
  · simp
  · split <;> simp
theorem arcs_len (t : Int) (lives : List (Int × Int)) : ∀ edges : List Ed, (arcsL t lives edges).length ≤ edges.length
  | [] => by simp [arcsL]
  | e :: es => by
    have h1 := arcs_len t lives es
    have h2 := arcOf_len t lives e
    unfold arcsL at h1 ⊢
    rw [List.flatMap_cons, List.length_append, List.length_cons]; omega

end Go.Proofs.YtjjhhmlogddnkaiDoor
