/-
  Maps as lists of pieces (From, To, Value): the plain mathematics, without any program.
-/
import Derived.Test.YtjjhhmlogddnkaiDoorDd
namespace Go.Proofs.YtjjhhmlogddnkaiDoor

/-- the numbers of a piece are near -/
def NearP (p : Int × Int × Int) : Prop := nearB p.1 ∧ nearB p.2.1 ∧ nearB p.2.2
/-- a piece may stand behind another one -/
def Fol (a p : Int × Int × Int) : Prop := a.2.1 < p.1 ∨ (a.2.1 = p.1 ∧ a.2.2 ≠ p.2.2)
def folB (a p : Int × Int × Int) : Bool := decide (a.2.1 < p.1) || (a.2.1 == p.1 && a.2.2 != p.2.2)
theorem folB_iff (a p : Int × Int × Int) : folB a p = true ↔ Fol a p := by
  unfold folB Fol
  simp only [Bool.or_eq_true, Bool.and_eq_true, decide_eq_true_eq, beq_iff_eq, bne_iff_ne]
/-- what is asked of the piece at place i -/
def Sound (m : List (Int × Int × Int)) (i : Nat) : Prop := NearP (m.getD i (0, 0, 0)) ∧ (m.getD i (0, 0, 0)).1 < (m.getD i (0, 0, 0)).2.1 ∧ (0 < i → Fol (m.getD (i - 1) (0, 0, 0)) (m.getD i (0, 0, 0)))
/-- the first k pieces are as they must be -/
def MGood (m : List (Int × Int × Int)) (k : Nat) : Prop := ∀ i, i < k → Sound m i
def mgoodDec (m : List (Int × Int × Int)) (k : Nat) : Decidable (MGood m k) := by unfold MGood Sound NearP Fol nearB; infer_instance
/-- what Check answers -/
def mchk (m : List (Int × Int × Int)) : Int := if 200 < m.length then 2 else @ite Int (MGood m m.length) (mgoodDec m m.length) 0 5

theorem mgood_succ {m : List (Int × Int × Int)} {k : Nat} (h : MGood m k) (h1 : Sound m k) : MGood m (k + 1) := by
  intro i hi
  by_cases e : i = k
  · subst e; exact h1
  · exact h i (by omega)
theorem mchk_large {m : List (Int × Int × Int)} (h : 200 < m.length) : mchk m = 2 := by simp [mchk, h]
theorem mchk_ok {m : List (Int × Int × Int)} (h : m.length ≤ 200) (hn : MGood m m.length) : mchk m = 0 := by
  unfold mchk; rw [if_neg (by omega), if_pos hn]
theorem mchk_no {m : List (Int × Int × Int)} {k : Nat} (h : m.length ≤ 200) (hk : k < m.length) (hn : ¬ Sound m k) : mchk m = 5 := by
  unfold mchk; rw [if_neg (by omega), if_neg (fun hh => hn (hh k hk))]
theorem mchk_cases (m : List (Int × Int × Int)) : mchk m = 2 ∨ mchk m = 5 ∨ (mchk m = 0 ∧ m.length ≤ 200 ∧ MGood m m.length) := by
  unfold mchk
  by_cases h : 200 < m.length
  · exact .inl (by rw [if_pos h])
  · rw [if_neg h]
    by_cases hn : MGood m m.length
    · exact .inr (.inr ⟨by rw [if_pos hn], by omega, hn⟩)
    · exact .inr (.inl (by rw [if_neg hn]))

/-- does the piece have the time? -/
def inP (p : Int × Int × Int) (t : Int) : Bool := decide (p.1 ≤ t) && decide (t < p.2.1)
theorem inP_iff (p : Int × Int × Int) (t : Int) : inP p t = true ↔ p.1 ≤ t ∧ t < p.2.1 := by unfold inP; simp only [Bool.and_eq_true, decide_eq_true_eq]
/-- what a list tells at a time -/
def tel : List (Int × Int × Int) → Int → Option Int
  | [], _ => none
  | p :: m, t => if inP p t then some p.2.2 else tel m t
theorem tel_nil (t : Int) : tel [] t = none := rfl
theorem tel_cons (p : Int × Int × Int) (m : List (Int × Int × Int)) (t : Int) : tel (p :: m) t = if inP p t then some p.2.2 else tel m t := rfl
theorem tel_append (a b : List (Int × Int × Int)) (t : Int) : tel (a ++ b) t = (tel a t).or (tel b t) := by
  induction a with
  | nil => rfl
  | cons p a ih =>
    rw [List.cons_append, tel_cons, tel_cons, ih]
    split <;> rfl
theorem tel_take_no {m : List (Int × Int × Int)} {k : Nat} {t : Int} (hk : k < m.length) (h : tel (m.take k) t = none) (hn : inP m[k] t = false) : tel (m.take (k + 1)) t = none := by
  rw [take_succ_get m k hk, tel_append, h, tel_cons, hn]; rfl
theorem tel_take_yes {m : List (Int × Int × Int)} {k : Nat} {t : Int} (hk : k < m.length) (h : tel (m.take k) t = none) (hn : inP m[k] t = true) : tel m t = some m[k].2.2 := by
  have e : m = m.take k ++ m[k] :: m.drop (k + 1) := by rw [List.getElem_cons_drop, List.take_append_drop]
  have e2 : tel m t = tel (m.take k ++ m[k] :: m.drop (k + 1)) t := congrArg (tel · t) e
  rw [e2, tel_append, h, tel_cons, hn]; rfl
theorem tel_mem {m : List (Int × Int × Int)} {t v : Int} (h : tel m t = some v) : ∃ p ∈ m, inP p t = true ∧ p.2.2 = v := by
  induction m with
  | nil => cases h
  | cons p m ih =>
    rw [tel_cons] at h
    split at h
    · rename_i hp; cases h; exact ⟨p, by simp, hp, rfl⟩
    · obtain ⟨q, hq, h1⟩ := ih h
      exact ⟨q, by simp [hq], h1⟩
theorem tel_none {m : List (Int × Int × Int)} {t : Int} (h : ∀ p ∈ m, inP p t = false) : tel m t = none := by
  induction m with
  | nil => rfl
  | cons p m ih =>
    rw [tel_cons, h p (by simp), ih fun q hq => h q (by simp [hq])]; rfl

/-- a map: the pieces rise, and those that touch differ -/
def MCan : List (Int × Int × Int) → Prop
  | [] => True
  | p :: m => p.1 < p.2.1 ∧ (∀ q, m.head? = some q → Fol p q) ∧ MCan m

theorem mcan_low {p : Int × Int × Int} {m : List (Int × Int × Int)} (h : MCan (p :: m)) : ∀ q ∈ m, p.2.1 ≤ q.1 := by
  induction m generalizing p with
  | nil => intro q hq; cases hq
  | cons r m ih =>
    intro q hq
    obtain ⟨h1, h2, h3⟩ := h
    have h4 := h2 r rfl
    have h5 := h3.1
    rcases List.mem_cons.1 hq with e | hq
    · subst e; rcases h4 with h4 | h4
      · omega
      · omega
    · have := ih h3 q hq
      rcases h4 with h4 | h4 <;> omega
theorem mcan_pos {m : List (Int × Int × Int)} (h : MCan m) : ∀ q ∈ m, q.1 < q.2.1 := by
  induction m with
  | nil => intro q hq; cases hq
  | cons r m ih =>
    intro q hq
    rcases List.mem_cons.1 hq with e | hq
    · subst e; exact h.1
    · exact ih h.2.2 q hq
theorem tel_before {m : List (Int × Int × Int)} {t : Int} (h : ∀ q ∈ m, t < q.1) : tel m t = none :=
  tel_none fun p hp => by have := h p hp; unfold inP; simp only [Bool.and_eq_false_iff, decide_eq_false_iff_not]; omega
theorem tel_first {p : Int × Int × Int} {m : List (Int × Int × Int)} {t : Int} (h1 : p.1 ≤ t) (h2 : t < p.2.1) : tel (p :: m) t = some p.2.2 := by
  rw [tel_cons, if_pos ((inP_iff p t).2 ⟨h1, h2⟩)]
theorem tel_later {p : Int × Int × Int} {m : List (Int × Int × Int)} {t : Int} (h : p.2.1 ≤ t) : tel (p :: m) t = tel m t := by
  rw [tel_cons, if_neg (fun hh => by have := (inP_iff p t).1 hh; omega)]

theorem mcan_end {p q : Int × Int × Int} {a b : List (Int × Int × Int)} (ha : MCan (p :: a)) (_hb : MCan (q :: b)) (h : ∀ t, tel (p :: a) t = tel (q :: b) t) (h1 : p.1 = q.1) (h2 : p.2.2 = q.2.2) (hlt : p.2.1 < q.2.1) : False := by
  have hp := ha.1
  have e := h p.2.1
  rw [tel_later (Int.le_refl _), tel_first (p := q) (by omega) hlt] at e
  cases a with
  | nil => cases e
  | cons r a =>
    have hf := ha.2.1 r rfl
    have hr := ha.2.2.1
    rcases hf with hf | ⟨hf, hv⟩
    · rw [tel_before (fun s hs => ?_)] at e
      · cases e
      · rcases List.mem_cons.1 hs with e' | hs
        · subst e'; exact hf
        · have := mcan_low ha.2.2 s hs; omega
    · rw [tel_first (p := r) (by omega) (by omega), Option.some.injEq] at e
      exact hv (by omega)

/-- two maps that tell the same are one list -/
theorem mcan_unique {a b : List (Int × Int × Int)} (ha : MCan a) (hb : MCan b) (h : ∀ t, tel a t = tel b t) : a = b := by
  induction a generalizing b with
  | nil =>
    cases b with
    | nil => rfl
    | cons q b =>
      have := h q.1
      rw [tel_first (Int.le_refl _) hb.1] at this
      cases this
  | cons p a ih =>
    cases b with
    | nil =>
      have := h p.1
      rw [tel_first (Int.le_refl _) ha.1] at this
      cases this
    | cons q b =>
      have hp := ha.1
      have hq := hb.1
      have la := mcan_low ha
      have lb := mcan_low hb
      have h1 : p.1 = q.1 := by
        rcases Int.lt_trichotomy p.1 q.1 with hc | hc | hc
        · have := h p.1
          rw [tel_first (Int.le_refl _) hp, tel_before (fun s hs => ?_)] at this
          · cases this
          · rcases List.mem_cons.1 hs with e | hs
            · subst e; exact hc
            · have := lb s hs; omega
        · exact hc
        · have := h q.1
          rw [tel_first (p := q) (Int.le_refl _) hq, tel_before (fun s hs => ?_)] at this
          · cases this
          · rcases List.mem_cons.1 hs with e | hs
            · subst e; exact hc
            · have := la s hs; omega
      have h2 : p.2.2 = q.2.2 := by
        have := h p.1
        rw [tel_first (Int.le_refl _) hp, tel_first (p := q) (by omega) (by omega), Option.some.injEq] at this
        exact this
      have h3 : p.2.1 = q.2.1 := by
        rcases Int.lt_trichotomy p.2.1 q.2.1 with hc | hc | hc
        · exact (mcan_end ha hb h h1 h2 hc).elim
        · exact hc
        · exact (mcan_end hb ha (fun t => (h t).symm) h1.symm h2.symm hc).elim
      have e : p = q := Prod.ext h1 (Prod.ext h3 h2)
      subst e
      rw [ih ha.2.2 hb.2.2 fun t => ?_]
      by_cases ht : p.2.1 ≤ t
      · have := h t
        rwa [tel_later ht, tel_later ht] at this
      · rw [tel_before (fun s hs => by have := la s hs; omega), tel_before (fun s hs => by have := lb s hs; omega)]

theorem mcan_snoc {o : List (Int × Int × Int)} {p : Int × Int × Int} : MCan (o ++ [p]) ↔ MCan o ∧ p.1 < p.2.1 ∧ ∀ q, o.getLast? = some q → Fol q p := by
  induction o with
  | nil => simp [MCan]
  | cons r o ih =>
    rw [List.cons_append, MCan, MCan, ih]
    cases o with
    | nil => simp [MCan, and_comm]
    | cons s o =>
      simp only [List.cons_append, List.head?_cons, List.getLast?_cons_cons]
      constructor
      · rintro ⟨h1, h2, h3, h4, h5⟩; exact ⟨⟨h1, h2, h3⟩, h4, h5⟩
      · rintro ⟨⟨h1, h2, h3⟩, h4, h5⟩; exact ⟨h1, h2, h3, h4, h5⟩

theorem mcan_take_of_good {m : List (Int × Int × Int)} (h : MGood m m.length) (k : Nat) (hk : k ≤ m.length) : MCan (m.take k) := by
  induction k with
  | zero => simp [MCan]
  | succ k ih =>
    have hlt : k < m.length := by omega
    have hs := h k hlt
    have hg : m.getD k (0, 0, 0) = m[k] := by simp [List.getD_eq_getElem?_getD, List.getElem?_eq_getElem hlt]
    rw [take_succ_get m k hlt, mcan_snoc]
    refine ⟨ih (by omega), by have := hs.2.1; rwa [hg] at this, fun q hq => ?_⟩
    have h0 : 0 < k := by
      rcases Nat.eq_zero_or_pos k with e | e
      · subst e; simp at hq
      · exact e
    have h2 := hs.2.2 h0
    rw [hg] at h2
    rw [List.getLast?_eq_getElem?, List.length_take, Nat.min_eq_left (by omega), List.getElem?_take_of_lt (by omega), List.getElem?_eq_getElem (by omega)] at hq
    cases hq
    rw [List.getD_eq_getElem?_getD, List.getElem?_eq_getElem (by omega)] at h2
    exact h2
theorem mcan_of_good {m : List (Int × Int × Int)} (h : MGood m m.length) : MCan m := by
  have := mcan_take_of_good h m.length (Nat.le_refl _)
  rwa [List.take_length] at this
theorem near_of_good {m : List (Int × Int × Int)} (h : MGood m m.length) : ∀ p ∈ m, NearP p := by
  intro p hp
  obtain ⟨j, hj, rfl⟩ := List.getElem_of_mem hp
  have := (h j hj).1
  rwa [List.getD_eq_getElem?_getD, List.getElem?_eq_getElem hj] at this
theorem good_of_mcan {m : List (Int × Int × Int)} (hc : MCan m) (hn : ∀ p ∈ m, NearP p) : MGood m m.length := by
  intro i hi
  have hg : m.getD i (0, 0, 0) = m[i] := by simp [List.getD_eq_getElem?_getD, List.getElem?_eq_getElem hi]
  unfold Sound
  rw [hg]
  refine ⟨hn _ (List.getElem_mem hi), mcan_pos hc _ (List.getElem_mem hi), fun h0 => ?_⟩
  obtain ⟨j, rfl⟩ : ∃ j, i = j + 1 := ⟨i - 1, by omega⟩
  have e : m = m.take (j + 1) ++ m[j + 1] :: m.drop (j + 1 + 1) := by rw [List.getElem_cons_drop, List.take_append_drop]
  have key : ∀ (o r : List (Int × Int × Int)) (p : Int × Int × Int), MCan (o ++ p :: r) → ∀ q, o.getLast? = some q → Fol q p := by
    intro o
    induction o with
    | nil => intro r p _ q hq; simp at hq
    | cons s o ih =>
      intro r p hm q hq
      rw [List.cons_append] at hm
      cases o with
      | nil => simp at hq; subst hq; exact hm.2.1 p rfl
      | cons u o => exact ih r p hm.2.2 q (by simpa using hq)
  have hc' := hc
  rw [e] at hc'
  refine key _ _ _ hc' _ ?_
  rw [List.getLast?_eq_getElem?, List.length_take, Nat.min_eq_left (by omega), List.getElem?_take_of_lt (by omega), Nat.add_sub_cancel, List.getD_eq_getElem?_getD, List.getElem?_eq_getElem (by omega)]
  rfl
theorem mchk_of_mcan {m : List (Int × Int × Int)} (hc : MCan m) (hn : ∀ p ∈ m, NearP p) (hl : m.length ≤ 200) : mchk m = 0 := mchk_ok hl (good_of_mcan hc hn)

/-- all ends of the pieces, in order -/
def turnsOf (m : List (Int × Int × Int)) : List Int := m.flatMap fun p => [p.1, p.2.1]
theorem turnsOf_length (m : List (Int × Int × Int)) : (turnsOf m).length = 2 * m.length := by
  induction m with
  | nil => rfl
  | cons p m ih => simp only [turnsOf, List.flatMap_cons, List.length_append, List.length_cons, List.length_nil] at ih ⊢; omega
theorem turnsOf_succ (m : List (Int × Int × Int)) (k : Nat) (hk : k < m.length) : turnsOf (m.take (k + 1)) = turnsOf (m.take k) ++ [m[k].1, m[k].2.1] := by
  rw [take_succ_get m k hk]; unfold turnsOf; rw [List.flatMap_append]; rfl
theorem turnsOf_mem {m : List (Int × Int × Int)} {x : Int} (h : x ∈ turnsOf m) : ∃ p ∈ m, x = p.1 ∨ x = p.2.1 := by
  unfold turnsOf at h
  rw [List.mem_flatMap] at h
  obtain ⟨p, hp, hx⟩ := h
  simp at hx
  exact ⟨p, hp, hx⟩
theorem mem_turnsOf {m : List (Int × Int × Int)} {p : Int × Int × Int} (h : p ∈ m) : p.1 ∈ turnsOf m ∧ p.2.1 ∈ turnsOf m := by
  unfold turnsOf
  exact ⟨List.mem_flatMap.2 ⟨p, h, by simp⟩, List.mem_flatMap.2 ⟨p, h, by simp⟩⟩

/-- what of the first i stretches has the time, tells -/
def mseg (S : List Int) (f : Int → Option Int) (i : Nat) (t : Int) : Option Int := (List.range i).findSome? fun k => if S.getD k 0 ≤ t ∧ t < S.getD (k + 1) 0 then f (S.getD k 0) else none
theorem mseg_succ (S : List Int) (f : Int → Option Int) (i : Nat) (t : Int) : mseg S f (i + 1) t = (mseg S f i t).or (if S.getD i 0 ≤ t ∧ t < S.getD (i + 1) 0 then f (S.getD i 0) else none) := by
  unfold mseg
  rw [List.range_succ, List.findSome?_append]
  congr 1
  simp only [List.findSome?_cons, List.findSome?_nil]
  split <;> simp_all

/-- what has been made of the first i stretches -/
structure Tl (S : List Int) (f : Int → Option Int) (i : Nat) (out : List (Int × Int × Int)) : Prop where
  canon : MCan out
  pts : ∀ t, tel out t = mseg S f i t
  last : ∀ q, out.getLast? = some q → ∃ j, j ≤ i ∧ S[j]? = some q.2.1
  len : out.length ≤ i
  mem : ∀ q ∈ out, q.1 ∈ S ∧ q.2.1 ∈ S ∧ ∃ s ∈ S, f s = some q.2.2

theorem tl_start (S : List Int) (f : Int → Option Int) : Tl S f 0 [] :=
  ⟨trivial, fun _ => rfl, fun q h => by simp at h, Nat.le_refl _, fun x h => by simp at h⟩

theorem getD_get' {S : List Int} {i : Nat} (h : i < S.length) : S.getD i 0 = S[i] := by simp [List.getD_eq_getElem?_getD, h]

theorem tl_skip {S : List Int} {f : Int → Option Int} {i : Nat} {out : List (Int × Int × Int)} (hi : i + 1 < S.length) (T : Tl S f i out) (hp : f S[i] = none) : Tl S f (i + 1) out := by
  refine ⟨T.canon, fun t => ?_, fun q h => ?_, by have := T.len; omega, T.mem⟩
  · rw [mseg_succ, getD_get' (by omega), hp, T.pts]; simp
  · obtain ⟨j, hj, e⟩ := T.last q h
    exact ⟨j, by omega, e⟩

theorem tl_last_le {S : List Int} {f : Int → Option Int} {i : Nat} {out : List (Int × Int × Int)} (hi : i + 1 < S.length) (hS : S.Pairwise (· < ·)) (T : Tl S f i out) {q : Int × Int × Int} (h : out.getLast? = some q) : q.2.1 ≤ S[i] := by
  rw [List.pairwise_iff_getElem] at hS
  obtain ⟨j, hj, ej⟩ := T.last q h
  obtain ⟨hjl, ej⟩ := List.getElem?_eq_some_iff.1 ej
  by_cases hji : j = i
  · subst hji; omega
  · have := hS j i hjl (by omega) (by omega); omega

theorem tl_put {S : List Int} {f : Int → Option Int} {i : Nat} {v : Int} {out : List (Int × Int × Int)} (hi : i + 1 < S.length) (hS : S.Pairwise (· < ·)) (T : Tl S f i out) (hp : f S[i] = some v) (hn : ∀ q, out.getLast? = some q → Fol q (S[i], S[i + 1], v)) : Tl S f (i + 1) (out ++ [(S[i], S[i + 1], v)]) := by
  have hS' := hS
  rw [List.pairwise_iff_getElem] at hS'
  have h01 := hS' i (i + 1) (by omega) hi (by omega)
  refine ⟨?_, fun t => ?_, fun q h => ?_, ?_, fun x hx => ?_⟩
  · rw [mcan_snoc]
    exact ⟨T.canon, h01, hn⟩
  · rw [mseg_succ, tel_append, T.pts, getD_get' (by omega : i < S.length), getD_get' hi, hp, tel_cons, tel_nil]
    congr 1
    simp only [inP, Bool.and_eq_true, decide_eq_true_eq]
  · simp at h
    subst h
    exact ⟨i + 1, Nat.le_refl _, List.getElem?_eq_getElem hi⟩
  · have := T.len; simp only [List.length_append, List.length_singleton]; omega
  · rw [List.mem_append] at hx
    rcases hx with hx | hx
    · exact T.mem x hx
    · simp only [List.mem_singleton] at hx
      subst hx
      exact ⟨List.getElem_mem _, List.getElem_mem _, S[i], List.getElem_mem _, hp⟩

theorem tl_more {S : List Int} {f : Int → Option Int} {i : Nat} {v : Int} {o : List (Int × Int × Int)} {q : Int × Int × Int} (hi : i + 1 < S.length) (hS : S.Pairwise (· < ·)) (T : Tl S f i (o ++ [q])) (hp : f S[i] = some v) (hn : q.2.1 = S[i]) (hv : q.2.2 = v) : Tl S f (i + 1) (o ++ [(q.1, S[i + 1], q.2.2)]) := by
  rw [List.pairwise_iff_getElem] at hS
  have h01 := hS i (i + 1) (by omega) hi (by omega)
  have hc := T.canon
  rw [mcan_snoc] at hc
  have hqq := hc.2.1
  refine ⟨?_, fun t => ?_, fun r h => ?_, ?_, fun x hx => ?_⟩
  · rw [mcan_snoc]
    exact ⟨hc.1, by simp only; omega, fun r hr => hc.2.2 r hr⟩
  · rw [mseg_succ, tel_append, ← T.pts, tel_append, getD_get' (by omega : i < S.length), getD_get' hi, hp, Option.or_assoc]
    congr 1
    rw [tel_cons, tel_cons, tel_nil]
    by_cases h1 : inP q t = true
    · have h2 : inP (q.1, S[i + 1], q.2.2) t = true := by rw [inP_iff] at h1 ⊢; simp only; omega
      rw [if_pos h1, if_pos h2]; rfl
    · rw [if_neg h1]
      by_cases h2 : inP (q.1, S[i + 1], q.2.2) t = true
      · rw [if_pos h2, if_pos (by rw [inP_iff] at h1 h2; simp only at h2; omega), ← hv]; rfl
      · rw [if_neg h2, if_neg (by rw [inP_iff] at h1 h2; simp only at h2; omega)]; rfl
  · simp at h
    subst h
    exact ⟨i + 1, Nat.le_refl _, List.getElem?_eq_getElem hi⟩
  · have := T.len; simp only [List.length_append, List.length_singleton] at this ⊢; omega
  · have hm := T.mem
    rw [List.mem_append] at hx
    rcases hx with hx | hx
    · exact hm x (by simp [hx])
    · simp only [List.mem_singleton] at hx
      subst hx
      have := hm q (by simp)
      exact ⟨this.1, List.getElem_mem _, this.2.2⟩

theorem inc_mem_unique {R S : List Int} (hR : R.Pairwise (· < ·)) (hS : S.Pairwise (· < ·)) (h : ∀ x, x ∈ R ↔ x ∈ S) : R = S := by
  induction R generalizing S with
  | nil =>
    cases S with
    | nil => rfl
    | cons y S => exact absurd ((h y).2 (by simp)) (by simp)
  | cons x R ih =>
    cases S with
    | nil => exact absurd ((h x).1 (by simp)) (by simp)
    | cons y S =>
      rw [List.pairwise_cons] at hR hS
      have e : x = y := by
        have h1 := (h x).1 (by simp)
        have h2 := (h y).2 (by simp)
        rcases List.mem_cons.1 h1 with e | h1
        · exact e
        · rcases List.mem_cons.1 h2 with e | h2
          · exact e.symm
          · have := hS.1 x h1; have := hR.1 y h2; omega
      subst e
      rw [ih hR.2 hS.2 fun z => ?_]
      have hz := h z
      simp only [List.mem_cons] at hz
      constructor
      · intro hm
        rcases hz.1 (.inr hm) with e | h
        · subst e; have := hR.1 z hm; omega
        · exact h
      · intro hm
        rcases hz.2 (.inr hm) with e | h
        · subst e; have := hS.1 z hm; omega
        · exact h

theorem tl_unique {A S S' : List Int} {f : Int → Option Int} {o o' : List (Int × Int × Int)} (h : Ordered A S) (h' : Ordered A S') (T : Tl S f (S.length - 1) o) (T' : Tl S' f (S'.length - 1) o') : o = o' := by
  have e : S = S' := inc_mem_unique h.inc h'.inc fun x => (h.mem x).trans (h'.mem x).symm
  subst e
  exact mcan_unique T.canon T'.canon fun t => by rw [T.pts, T'.pts]

/-- what is told: the error n with nothing, or a map -/
def MapIs (A : List Int) (f : Int → Option Int) (n : Int) (r : List (Int × Int × Int)) : Prop :=
  ∃ S out, Ordered A S ∧ Tl S f (S.length - 1) out ∧ ((¬ (∀ q ∈ out, NearP q) ∧ n = 5 ∧ r = []) ∨ ((∀ q ∈ out, NearP q) ∧ 200 < out.length ∧ n = 2 ∧ r = []) ∨ ((∀ q ∈ out, NearP q) ∧ out.length ≤ 200 ∧ n = 0 ∧ r = out))

theorem mapIs_unique {A : List Int} {f : Int → Option Int} {n n' : Int} {r r' : List (Int × Int × Int)} (h : MapIs A f n r) (h' : MapIs A f n' r') : n = n' ∧ r = r' := by
  obtain ⟨S, o, hO, hT, h⟩ := h
  obtain ⟨S', o', hO', hT', h'⟩ := h'
  have e := tl_unique hO hO' hT hT'
  subst e
  rcases h with ⟨a, h1, h2⟩ | ⟨a, b, h1, h2⟩ | ⟨a, b, h1, h2⟩
  · rcases h' with ⟨a', h1', h2'⟩ | ⟨a', b', h1', h2'⟩ | ⟨a', b', h1', h2'⟩
    · exact ⟨h1.trans h1'.symm, h2.trans h2'.symm⟩
    · exact absurd a' a
    · exact absurd a' a
  · rcases h' with ⟨a', h1', h2'⟩ | ⟨a', b', h1', h2'⟩ | ⟨a', b', h1', h2'⟩
    · exact absurd a a'
    · exact ⟨h1.trans h1'.symm, h2.trans h2'.symm⟩
    · omega
  · rcases h' with ⟨a', h1', h2'⟩ | ⟨a', b', h1', h2'⟩ | ⟨a', b', h1', h2'⟩
    · exact absurd a a'
    · omega
    · exact ⟨h1.trans h1'.symm, h2.trans h2'.symm⟩

end Go.Proofs.YtjjhhmlogddnkaiDoor
