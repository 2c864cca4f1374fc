/-
  Sets of times as rising lists of ends: the plain mathematics of sweeping two sets, without any program.
-/
import Derived.Test.YteibdmfcclkjpacMath
namespace Go.Proofs.Yteibdmfcclkjpac

/-- is a number odd? -/
def odd (k : Nat) : Bool := ((k : Int) % 2 == 1)
theorem odd_succ (k : Nat) : odd (k + 1) = !odd k := by
  unfold odd
  rw [Bool.eq_iff_iff]
  simp
  omega
theorem odd_zero : odd 0 = false := rfl
theorem odd_cast_succ (k : Nat) : (((k : Int) + 1) % 2 == 1) = odd (k + 1) := by
  unfold odd
  rw [Bool.eq_iff_iff]
  simp
theorem odd_two (k : Nat) : odd (2 * k) = false := by
  unfold odd
  simp

/-- how many are at or below t? -/
def cnt (l : List Int) (t : Int) : Nat := l.countP fun x => decide (x ≤ t)
theorem cnt_nil (t : Int) : cnt [] t = 0 := rfl
theorem cnt_cons (x : Int) (l : List Int) (t : Int) : cnt (x :: l) t = cnt l t + if x ≤ t then 1 else 0 := by
  unfold cnt
  rw [List.countP_cons]
  simp
theorem cnt_append (a b : List Int) (t : Int) : cnt (a ++ b) t = cnt a t + cnt b t := by
  unfold cnt; rw [List.countP_append]
theorem cnt_none {l : List Int} {t : Int} (h : ∀ x ∈ l, t < x) : cnt l t = 0 := by
  unfold cnt
  rw [List.countP_eq_zero]
  intro x hx
  have := h x hx
  simp; omega
theorem cnt_all {l : List Int} {t : Int} (h : ∀ x ∈ l, x ≤ t) : cnt l t = l.length := by
  unfold cnt
  rw [List.countP_eq_length]
  intro x hx
  simpa using h x hx

/-- what sweeping has made of the first i and j ends -/
structure Swp (want : Bool → Bool → Bool) (A B : List Int) (i j : Nat) (r : List Int) : Prop where
  hi : i ≤ A.length
  hj : j ≤ B.length
  sep : ∀ x, (x ∈ r ∨ x ∈ A.take i ∨ x ∈ B.take j) → ∀ y, (y ∈ A.drop i ∨ y ∈ B.drop j) → x < y
  inc : r.Pairwise (· < ·)
  par : odd r.length = want (odd i) (odd j)
  pts : ∀ t, odd (cnt r t) = want (odd (cnt (A.take i) t)) (odd (cnt (B.take j) t))
  len : r.length ≤ i + j
  near : ∀ x ∈ r, nearB x

theorem swp_start {want : Bool → Bool → Bool} (hw : want false false = false) (A B : List Int) : Swp want A B 0 0 [] :=
  ⟨Nat.zero_le _, Nat.zero_le _, fun x h => by simp at h, List.Pairwise.nil, by simp [odd_zero, hw], fun t => by simp [cnt_nil, odd_zero, hw], Nat.zero_le _, fun x h => by simp at h⟩

/-- one list's part of a step -/
def Stp (A : List Int) (i i' : Nat) (τ : Int) : Prop := (i' = i + 1 ∧ A[i]? = some τ) ∨ (i' = i ∧ ∀ y ∈ A.drop i, τ < y)

theorem stp_le {A : List Int} {i i' : Nat} {τ : Int} (h : Stp A i i' τ) (hi : i ≤ A.length) : i' ≤ A.length := by
  rcases h with ⟨rfl, h⟩ | ⟨rfl, _⟩
  · have := (List.getElem?_eq_some_iff.1 h).1; omega
  · exact hi
theorem stp_mem {A : List Int} {i i' : Nat} {τ x : Int} (h : Stp A i i' τ) (hx : x ∈ A.take i') : x ∈ A.take i ∨ x = τ := by
  rcases h with ⟨rfl, h⟩ | ⟨rfl, _⟩
  · obtain ⟨hl, he⟩ := List.getElem?_eq_some_iff.1 h
    rw [take_succ_get A i hl] at hx
    simp only [List.mem_append, List.mem_singleton] at hx
    rcases hx with hx | hx
    · exact .inl hx
    · exact .inr (hx.trans he)
  · exact .inl hx
theorem stp_rest {A : List Int} {i i' : Nat} {τ y : Int} (h : Stp A i i' τ) (hy : y ∈ A.drop i') : y ∈ A.drop i := by
  rcases h with ⟨rfl, h⟩ | ⟨rfl, _⟩
  · rw [← List.drop_drop] at hy
    exact List.mem_of_mem_drop hy
  · exact hy
theorem stp_lt {A : List Int} {i i' : Nat} {τ y : Int} (sA : A.Pairwise (· < ·)) (h : Stp A i i' τ) (hy : y ∈ A.drop i') : τ < y := by
  rcases h with ⟨rfl, h⟩ | ⟨rfl, hh⟩
  · obtain ⟨hl, he⟩ := List.getElem?_eq_some_iff.1 h
    have sd := sA.sublist (List.drop_sublist i A)
    rw [List.drop_eq_getElem_cons hl, List.pairwise_cons] at sd
    rw [← he]
    exact sd.1 y hy
  · exact hh y hy
theorem stp_cnt_lt {A : List Int} {i i' : Nat} {τ t : Int} (h : Stp A i i' τ) (ht : t < τ) : cnt (A.take i') t = cnt (A.take i) t := by
  rcases h with ⟨rfl, h⟩ | ⟨rfl, _⟩
  · obtain ⟨hl, he⟩ := List.getElem?_eq_some_iff.1 h
    rw [take_succ_get A i hl, cnt_append, he, cnt_none (l := [τ]) (by simpa using ht)]
    rfl
  · rfl

theorem swp_step {want : Bool → Bool → Bool} {A B : List Int} {i j i' j' : Nat} {r r' : List Int} {τ : Int} (S : Swp want A B i j r) (sA : A.Pairwise (· < ·)) (sB : B.Pairwise (· < ·)) (hn : nearB τ)
    (hi : Stp A i i' τ) (hj : Stp B j j' τ) (hτ : τ ∈ A.drop i ∨ τ ∈ B.drop j) (hp : i + j < i' + j')
    (hr : (want (odd i') (odd j') ≠ odd r.length ∧ r' = r ++ [τ]) ∨ (want (odd i') (odd j') = odd r.length ∧ r' = r)) : Swp want A B i' j' r' := by
  have old : ∀ x, (x ∈ r ∨ x ∈ A.take i ∨ x ∈ B.take j) → x < τ := fun x hx => S.sep x hx τ hτ
  have hr' : ∀ x ∈ r', x ∈ r ∨ x = τ := by
    intro x hx
    rcases hr with ⟨_, rfl⟩ | ⟨_, rfl⟩
    · simpa using hx
    · exact .inl hx
  have par : odd r'.length = want (odd i') (odd j') := by
    rcases hr with ⟨h, rfl⟩ | ⟨h, rfl⟩
    · simp only [List.length_append, List.length_singleton, odd_succ]
      revert h
      cases odd r.length <;> cases want (odd i') (odd j') <;> simp
    · exact h.symm
  have hi' := stp_le hi S.hi
  have hj' := stp_le hj S.hj
  refine ⟨hi', hj', ?_, ?_, par, ?_, ?_, ?_⟩
  · intro x hx y hy
    have hxx : (x ∈ r ∨ x ∈ A.take i ∨ x ∈ B.take j) ∨ x = τ := by
      rcases hx with hx | hx | hx
      · rcases hr' x hx with h | h
        · exact .inl (.inl h)
        · exact .inr h
      · rcases stp_mem hi hx with h | h
        · exact .inl (.inr (.inl h))
        · exact .inr h
      · rcases stp_mem hj hx with h | h
        · exact .inl (.inr (.inr h))
        · exact .inr h
    have hτy : τ < y := by
      rcases hy with hy | hy
      · exact stp_lt sA hi hy
      · exact stp_lt sB hj hy
    rcases hxx with hxx | rfl
    · have := old x hxx; omega
    · exact hτy
  · rcases hr with ⟨_, rfl⟩ | ⟨_, rfl⟩
    · rw [List.pairwise_append]
      exact ⟨S.inc, List.pairwise_singleton _ _, fun a ha b hb => by simp at hb; subst hb; exact old a (.inl ha)⟩
    · exact S.inc
  · intro t
    by_cases ht : t < τ
    · rw [stp_cnt_lt hi ht, stp_cnt_lt hj ht, ← S.pts t]
      rcases hr with ⟨_, rfl⟩ | ⟨_, rfl⟩
      · rw [cnt_append, cnt_none (l := [τ]) (by simpa using ht)]; rfl
      · rfl
    · have e1 : cnt (A.take i') t = i' := by
        rw [cnt_all, List.length_take]
        · omega
        · intro x hx
          rcases stp_mem hi hx with h | h
          · have := old x (.inr (.inl h)); omega
          · omega
      have e2 : cnt (B.take j') t = j' := by
        rw [cnt_all, List.length_take]
        · omega
        · intro x hx
          rcases stp_mem hj hx with h | h
          · have := old x (.inr (.inr h)); omega
          · omega
      have e3 : cnt r' t = r'.length := by
        refine cnt_all fun x hx => ?_
        rcases hr' x hx with h | h
        · have := old x (.inl h); omega
        · omega
      rw [e1, e2, e3]
      exact par
  · have := S.len
    rcases hr with ⟨_, rfl⟩ | ⟨_, rfl⟩
    · simp only [List.length_append, List.length_singleton]; omega
    · omega
  · intro x hx
    rcases hr' x hx with h | rfl
    · exact S.near x h
    · exact hn

theorem swp_put {want : Bool → Bool → Bool} {A B : List Int} {i j i' j' : Nat} {r : List Int} {τ : Int} {x y z : Bool} (S : Swp want A B i j r) (sA : A.Pairwise (· < ·)) (sB : B.Pairwise (· < ·)) (hn : nearB τ)
    (hi : Stp A i i' τ) (hj : Stp B j j' τ) (hτ : τ ∈ A.drop i ∨ τ ∈ B.drop j) (hp : i + j < i' + j') (hx : x = odd i') (hy : y = odd j') (hz : z = odd r.length) (h : (!want x y == z) = true) : Swp want A B i' j' (r ++ [τ]) := by
  subst hx hy hz
  exact swp_step S sA sB hn hi hj hτ hp (.inl ⟨by simpa using h, rfl⟩)
theorem swp_skip {want : Bool → Bool → Bool} {A B : List Int} {i j i' j' : Nat} {r : List Int} {τ : Int} {x y z : Bool} (S : Swp want A B i j r) (sA : A.Pairwise (· < ·)) (sB : B.Pairwise (· < ·)) (hn : nearB τ)
    (hi : Stp A i i' τ) (hj : Stp B j j' τ) (hτ : τ ∈ A.drop i ∨ τ ∈ B.drop j) (hp : i + j < i' + j') (hx : x = odd i') (hy : y = odd j') (hz : z = odd r.length) (h : (!want x y == z) = false) : Swp want A B i' j' r := by
  subst hx hy hz
  exact swp_step S sA sB hn hi hj hτ hp (.inr ⟨by simpa using h, rfl⟩)
theorem stp_yes {A : List Int} {i : Nat} {τ : Int} (h : i < A.length) (e : A[i] = τ) : Stp A i (i + 1) τ := .inl ⟨rfl, by rw [List.getElem?_eq_getElem h, e]⟩
theorem stp_past {A : List Int} {i : Nat} {τ : Int} (h : A.length ≤ i) : Stp A i i τ := .inr ⟨rfl, fun y hy => by rw [List.drop_eq_nil_of_le h] at hy; cases hy⟩
theorem stp_no {A : List Int} {i : Nat} {τ : Int} (sA : A.Pairwise (· < ·)) (h : i < A.length) (e : τ < A[i]) : Stp A i i τ := by
  refine .inr ⟨rfl, fun y hy => ?_⟩
  have sd := sA.sublist (List.drop_sublist i A)
  rw [List.drop_eq_getElem_cons h] at hy sd
  rw [List.pairwise_cons] at sd
  simp only [List.mem_cons] at hy
  rcases hy with rfl | hy
  · exact e
  · have := sd.1 y hy; omega
theorem mem_drop_get {A : List Int} {i : Nat} (h : i < A.length) : A[i] ∈ A.drop i := by
  rw [List.drop_eq_getElem_cons h]; exact List.mem_cons_self

/-- does a set have a time? -/
def has (l : List (Int × Int)) (t : Int) : Bool := l.any fun p => decide (p.1 ≤ t) && decide (t < p.2)
theorem has_nil (t : Int) : has [] t = false := rfl
theorem has_cons (p : Int × Int) (l : List (Int × Int)) (t : Int) : has (p :: l) t = ((decide (p.1 ≤ t) && decide (t < p.2)) || has l t) := rfl

theorem has_append (a b : List (Int × Int)) (t : Int) : has (a ++ b) t = (has a t || has b t) := by simp [has]
theorem has_take_no {l : List (Int × Int)} {k : Nat} {t : Int} (hk : k < l.length) (h : has (l.take k) t = false) (hn : ¬ (l[k].1 ≤ t ∧ t < l[k].2)) : has (l.take (k + 1)) t = false := by
  rw [take_succ_get l k hk, has_append, h, has_cons, has_nil]
  simp only [Bool.false_or, Bool.or_false, Bool.and_eq_false_iff, decide_eq_false_iff_not]
  omega
theorem has_take_yes {l : List (Int × Int)} {k : Nat} {t : Int} (hk : k < l.length) (h1 : l[k].1 ≤ t) (h2 : t < l[k].2) : has l t = true := by
  unfold has
  rw [List.any_eq_true]
  exact ⟨l[k], List.getElem_mem hk, by simp [h1, h2]⟩

/-- how many times a list of intervals tells -/
def size (l : List (Int × Int)) : Int := (l.map fun p => p.2 - p.1).sum
theorem size_nil : size [] = 0 := rfl
theorem size_cons (p : Int × Int) (l : List (Int × Int)) : size (p :: l) = (p.2 - p.1) + size l := by simp [size]
theorem size_append (a b : List (Int × Int)) : size (a ++ b) = size a + size b := by
  induction a with
  | nil => simp [size_nil]
  | cons p a ih => rw [List.cons_append, size_cons, size_cons, ih]; omega
theorem size_take_succ {l : List (Int × Int)} {k : Nat} (hk : k < l.length) : size (l.take (k + 1)) = size (l.take k) + (l[k].2 - l[k].1) := by
  rw [take_succ_get l k hk, size_append, size_cons, size_nil]; omega
theorem size_take_bd {l : List (Int × Int)} (hn : Near l l.length) (k : Nat) (hk : k ≤ l.length) : -2000000000 * (k : Int) ≤ size (l.take k) ∧ size (l.take k) ≤ 2000000000 * (k : Int) := by
  induction k with
  | zero => simp [size_nil]
  | succ k ih =>
    have h1 := ih (by omega)
    have h2 := hn k (by omega)
    have hlt : k < l.length := by omega
    rw [List.getD_eq_getElem?_getD, List.getElem?_eq_getElem hlt] at h2
    simp only [Option.getD_some, nearB] at h2
    rw [size_take_succ hlt]
    omega

/-- a set: its ends rise -/
def Canon (l : List (Int × Int)) : Prop := (flat l).Pairwise (· < ·)

theorem canon_has {l : List (Int × Int)} (h : Canon l) (t : Int) : has l t = odd (cnt (flat l) t) := by
  induction l with
  | nil => rfl
  | cons p l ih =>
    unfold Canon at h
    rw [flat_cons, List.pairwise_cons, List.pairwise_cons] at h
    obtain ⟨h1, h2, h3⟩ := h
    have hp := h1 p.2 (by simp)
    have ih' := ih h3
    rw [flat_cons, cnt_cons, cnt_cons, has_cons, ih']
    by_cases a : p.1 ≤ t
    · by_cases b : p.2 ≤ t
      · rw [if_pos a, if_pos b, odd_succ, odd_succ]
        have : decide (t < p.2) = false := by simp; omega
        simp [this]
      · have c0 : cnt (flat l) t = 0 := cnt_none fun x hx => by have := h2 x hx; omega
        rw [if_pos a, if_neg b, c0]
        have : decide (t < p.2) = true := by simp; omega
        simp [a, this, odd]
    · have c0 : cnt (flat l) t = 0 := cnt_none fun x hx => by have := h2 x hx; omega
      rw [if_neg a, if_neg (by omega), c0]
      simp [a, odd_zero]

theorem inc_unique {R S : List Int} (hR : R.Pairwise (· < ·)) (hS : S.Pairwise (· < ·)) (h : ∀ t, odd (cnt R t) = odd (cnt S t)) : R = S := by
  induction R generalizing S with
  | nil =>
    cases S with
    | nil => rfl
    | cons y S =>
      rw [List.pairwise_cons] at hS
      have := h y
      rw [cnt_cons, cnt_none (l := S) hS.1, if_pos (Int.le_refl _)] at this
      simp [cnt_nil, odd] at this
  | cons x R ih =>
    rw [List.pairwise_cons] at hR
    cases S with
    | nil =>
      have := h x
      rw [cnt_cons, cnt_none (l := R) hR.1, if_pos (Int.le_refl _)] at this
      simp [cnt_nil, odd] at this
    | cons y S =>
      rw [List.pairwise_cons] at hS
      have hxy : x = y := by
        by_cases a : x < y
        · have := h x
          rw [cnt_cons, cnt_cons, cnt_none (l := R) hR.1, if_pos (Int.le_refl _), cnt_none (l := S) (fun z hz => by have := hS.1 z hz; omega), if_neg (by omega)] at this
          simp [odd] at this
        · by_cases b : y < x
          · have := h y
            rw [cnt_cons, cnt_cons, cnt_none (l := S) hS.1, if_pos (Int.le_refl _), cnt_none (l := R) (fun z hz => by have := hR.1 z hz; omega), if_neg (by omega)] at this
            simp [odd] at this
          · omega
      subst hxy
      rw [ih hR.2 hS.2]
      intro t
      have := h t
      rw [cnt_cons, cnt_cons] at this
      by_cases a : x ≤ t
      · rw [if_pos a, odd_succ, odd_succ] at this
        simpa using this
      · rw [if_neg a] at this
        exact this

theorem flat_inj {a b : List (Int × Int)} (h : flat a = flat b) : a = b := by
  induction a generalizing b with
  | nil =>
    cases b with
    | nil => rfl
    | cons q b => rw [flat_cons] at h; cases h
  | cons p a ih =>
    cases b with
    | nil => rw [flat_cons] at h; cases h
    | cons q b =>
      rw [flat_cons, flat_cons] at h
      injection h with h1 h2
      injection h2 with h2 h3
      rw [ih h3, Prod.ext h1 h2]

theorem canon_unique {a b : List (Int × Int)} (ha : Canon a) (hb : Canon b) (h : ∀ t, has a t = has b t) : a = b :=
  flat_inj (inc_unique ha hb fun t => by rw [← canon_has ha, ← canon_has hb]; exact h t)

/-- pairs of numbers that follow each other -/
def pairs : List Int → List (Int × Int)
  | x :: y :: l => (x, y) :: pairs l
  | _ => []
theorem flat_pairs (r : List Int) (h : odd r.length = false) : flat (pairs r) = r := by
  match r, h with
  | [], _ => rfl
  | [x], h => simp [odd] at h
  | x :: y :: l, h =>
    have := flat_pairs l (by simp only [List.length_cons, odd_succ] at h; simpa using h)
    rw [pairs, flat_cons, this]
theorem pairs_flat (l : List (Int × Int)) : pairs (flat l) = l := by
  induction l with
  | nil => rfl
  | cons p l ih => rw [flat_cons, pairs, ih]

/-- what both sets come to -/
structure SetIs (want : Bool → Bool → Bool) (a b r : List (Int × Int)) : Prop where
  canon : Canon r
  pts : ∀ t, has r t = want (has a t) (has b t)
  len : r.length ≤ a.length + b.length
  near : ∀ x ∈ flat r, nearB x

theorem setIs_of_swp {want : Bool → Bool → Bool} (hw : want false false = false) {a b : List (Int × Int)} {r : List Int} (ha : Canon a) (hb : Canon b) (S : Swp want (flat a) (flat b) (flat a).length (flat b).length r) :
    odd r.length = false ∧ SetIs want a b (pairs r) := by
  have he : odd r.length = false := by
    have := S.par
    rw [flat_length, flat_length, odd_two, odd_two, hw] at this
    exact this
  have hf := flat_pairs r he
  have hc : Canon (pairs r) := by unfold Canon; rw [hf]; exact S.inc
  refine ⟨he, hc, fun t => ?_, ?_, by rw [hf]; exact S.near⟩
  · have := S.pts t
    rw [List.take_length, List.take_length] at this
    rw [canon_has hc, hf, canon_has ha, canon_has hb]
    exact this
  · have h1 := S.len
    have h2 := flat_length (pairs r)
    rw [hf] at h2
    rw [flat_length, flat_length] at h1
    omega

theorem setIs_unique {want : Bool → Bool → Bool} {a b r s : List (Int × Int)} (h : SetIs want a b r) (hs : Canon s) (hp : ∀ t, has s t = want (has a t) (has b t)) : r = s :=
  canon_unique h.canon hs fun t => by rw [h.pts, hp]

theorem form_tail {p : Int × Int} {l : List (Int × Int)} (h : Form (p :: l) (l.length + 1)) : Form l l.length := by
  intro i hi
  have := h (i + 1) (by omega)
  refine ⟨by simpa using this.1, fun h0 => ?_⟩
  have h2 := this.2 (by omega)
  rw [show i + 1 - 1 = (i - 1) + 1 by omega] at h2
  simpa using h2

theorem canon_of_form {l : List (Int × Int)} (h : Form l l.length) : Canon l := by
  unfold Canon
  induction l with
  | nil => exact List.Pairwise.nil
  | cons p l ih =>
    have ih' := ih (form_tail h)
    have h0 := (h 0 (by simp)).1
    simp at h0
    have h1 : ∀ x ∈ flat l, p.2 < x := by
      cases l with
      | nil => simp [flat]
      | cons q l =>
        have hq := (h 1 (by simp)).2 (by omega)
        simp at hq
        rw [flat_cons] at ih' ⊢
        intro x hx
        rw [List.pairwise_cons] at ih'
        simp only [List.mem_cons] at hx
        rcases hx with rfl | hx
        · exact hq
        · have := ih'.1 x (by simpa using hx); omega
    rw [flat_cons, List.pairwise_cons, List.pairwise_cons]
    refine ⟨fun x hx => ?_, h1, ih'⟩
    simp only [List.mem_cons] at hx
    rcases hx with rfl | hx
    · exact h0
    · have := h1 x hx; omega

theorem form_of_canon {l : List (Int × Int)} (h : Canon l) : Form l l.length := by
  unfold Canon at h
  rw [List.pairwise_iff_getElem] at h
  intro i hi
  have hl := flat_length l
  obtain ⟨f0, f1⟩ := flat_getD l i hi
  obtain ⟨g0, f0⟩ := List.getElem?_eq_some_iff.1 f0
  obtain ⟨g1, f1⟩ := List.getElem?_eq_some_iff.1 f1
  refine ⟨?_, fun h0 => ?_⟩
  · rw [← f0, ← f1]; exact h _ _ g0 g1 (by omega)
  · obtain ⟨_, e1⟩ := flat_getD l (i - 1) (by omega)
    obtain ⟨k1, e1⟩ := List.getElem?_eq_some_iff.1 e1
    rw [← f0, ← e1]
    exact h _ _ k1 g0 (by omega)

theorem near_flat {l : List (Int × Int)} (h : Near l l.length) : ∀ x ∈ flat l, nearB x := by
  induction l with
  | nil => simp [flat]
  | cons p l ih =>
    have ih' := ih (fun i hi => by simpa using h (i + 1) (by simpa using hi))
    have h0 := h 0 (by simp)
    simp at h0
    rw [flat_cons]
    intro x hx
    simp only [List.mem_cons] at hx
    rcases hx with rfl | rfl | hx
    · exact h0.1
    · exact h0.2
    · exact ih' x hx

theorem near_of_flat {l : List (Int × Int)} (h : ∀ x ∈ flat l, nearB x) : Near l l.length := by
  intro i hi
  obtain ⟨f0, f1⟩ := flat_getD l i hi
  exact ⟨h _ (List.mem_of_getElem? f0), h _ (List.mem_of_getElem? f1)⟩

theorem chk_of_canon {l : List (Int × Int)} (hc : Canon l) (hn : ∀ x ∈ flat l, nearB x) (hl : l.length ≤ 200) : chk l = 0 :=
  chk_ok hl (near_of_flat hn) (form_of_canon hc)

end Go.Proofs.Yteibdmfcclkjpac
