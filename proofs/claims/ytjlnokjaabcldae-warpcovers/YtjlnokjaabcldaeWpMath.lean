/-
  Messages against states: the values of the messages at a time put together, which these are, the cells: plain mathematics, without any program.
-/
import Derived.Test.YtjlnokjaabcldaeMTurns
namespace Go.Proofs.Ytjlnokjaabcldae

/-- one value more -/
def mixO (how : Int) (o : Option Int) (v : Int) : Option Int :=
  match o with
  | none => some v
  | some x => some (both how x v)
/-- the values of the messages at a time put together -/
def mix (how : Int) (l : List (Int × Int × Int)) (t : Int) : Option Int := l.foldl (fun o p => if inP p t then mixO how o p.2.2 else o) none
theorem mix_snoc (how : Int) (l : List (Int × Int × Int)) (p : Int × Int × Int) (t : Int) : mix how (l ++ [p]) t = if inP p t then mixO how (mix how l t) p.2.2 else mix how l t := by
  unfold mix; rw [List.foldl_append]; rfl
theorem mix_take {how : Int} {l : List (Int × Int × Int)} {k : Nat} {t : Int} (hk : k < l.length) : mix how (l.take (k + 1)) t = if inP l[k] t then mixO how (mix how (l.take k) t) l[k].2.2 else mix how (l.take k) t := by
  rw [take_succ_get l k hk, mix_snoc]
theorem mix_bound {how : Int} {l : List (Int × Int × Int)} {t x : Int} (h : ∀ p ∈ l, nearB p.2.2) (hk : l.length ≤ 200) (hx : mix how l t = some x) : -200000000000 ≤ x ∧ x ≤ 200000000000 := by
  have key : ∀ k, k ≤ l.length → ∀ x, mix how (l.take k) t = some x → -(1000000000 * (k : Int)) ≤ x ∧ x ≤ 1000000000 * (k : Int) := by
    intro k
    induction k with
    | zero => intro _ x hx; simp [mix] at hx
    | succ k ih =>
      intro hk x hx
      have hv := h l[k] (List.getElem_mem (by omega))
      unfold nearB at hv
      rw [mix_take (by omega)] at hx
      split at hx
      · cases hm : mix how (l.take k) t with
        | none =>
          rw [hm] at hx
          simp only [mixO, Option.some.injEq] at hx
          subst hx; omega
        | some y =>
          have := ih (by omega) y hm
          rw [hm] at hx
          simp only [mixO, Option.some.injEq] at hx
          subst hx
          unfold both
          split
          · omega
          · split <;> omega
      · have := ih (by omega) x hx; omega
  have := key l.length (Nat.le_refl _) x (by rw [List.take_length]; exact hx)
  omega
theorem mix_bound_take {how : Int} {l : List (Int × Int × Int)} {t x : Int} {k : Nat} (h : ∀ p ∈ l, nearB p.2.2) (hk : l.length ≤ 200) (hx : mix how (l.take k) t = some x) : -200000000000 ≤ x ∧ x ≤ 200000000000 :=
  mix_bound (l := l.take k) (fun p hp => h p (List.mem_of_mem_take hp)) (by rw [List.length_take]; omega) hx

theorem mixO_some (how : Int) (o : Option Int) (v : Int) : (mixO how o v).isSome = true := by cases o <;> rfl
theorem mix_cons_none {how : Int} {l : List (Int × Int × Int)} {t : Int} : mix how l t = none ↔ ∀ p ∈ l, inP p t = false := by
  have key : ∀ k, k ≤ l.length → (mix how (l.take k) t = none ↔ ∀ p ∈ l.take k, inP p t = false) := by
    intro k
    induction k with
    | zero => simp [mix]
    | succ k ih =>
      intro hk
      rw [mix_take (by omega), take_succ_get l k (by omega)]
      have ih := ih (by omega)
      cases hp : inP l[k] t with
      | true =>
        simp only [if_pos]
        constructor
        · intro h; have := mixO_some how (mix how (l.take k) t) l[k].2.2; rw [h] at this; cases this
        · intro h; have := h l[k] (List.mem_append.2 (.inr (List.mem_singleton.2 rfl))); rw [hp] at this; cases this
      | false =>
        simp only [Bool.false_eq_true, if_false]
        rw [ih]
        constructor
        · intro h p hm
          rw [List.mem_append] at hm
          rcases hm with hm | hm
          · exact h p hm
          · simp only [List.mem_singleton] at hm; subst hm; exact hp
        · intro h p hm; exact h p (by rw [List.mem_append]; exact .inl hm)
  have := key l.length (Nat.le_refl _)
  rwa [List.take_length] at this

theorem foldl_same {α β : Type} {f g : α → β → α} {l : List β} {a : α} (h : ∀ x ∈ l, ∀ a, f a x = g a x) : l.foldl f a = l.foldl g a := by
  induction l generalizing a with
  | nil => rfl
  | cons x l ih => rw [List.foldl_cons, List.foldl_cons, h x (by simp), ih fun y hy => h y (by simp [hy])]
theorem mix_congr {how : Int} {l : List (Int × Int × Int)} {s t : Int} (h : ∀ p ∈ l, inP p s = inP p t) : mix how l s = mix how l t := by
  unfold mix; exact foldl_same fun p hp a => by rw [h p hp]
theorem mix_turns {how : Int} {l : List (Int × Int × Int)} {S : List Int} (h1 : ∀ x ∈ turnsOf l, x ∈ S) : MTurns S (mix how l) := by
  refine ⟨fun s t hst h => mix_congr fun p hp => inP_same hst (h _ (h1 _ (mem_turnsOf hp).1)) (h _ (h1 _ (mem_turnsOf hp).2)), fun t h => ?_, fun t h => ?_⟩
  · exact mix_cons_none.2 fun p hp => inP_low (h _ (h1 _ (mem_turnsOf hp).1))
  · exact mix_cons_none.2 fun p hp => inP_high (h _ (h1 _ (mem_turnsOf hp).2))

/-- what Check of messages asks of one -/
def GoodM (p : Int × Int × Int) : Prop := NearP p ∧ p.1 < p.2.1
def goodMDec (l : List (Int × Int × Int)) : Decidable (∀ p ∈ l, GoodM p) := by unfold GoodM NearP nearB; infer_instance
/-- what Check of messages answers -/
def lchk (l : List (Int × Int × Int)) : Int := if 200 < l.length then 2 else @ite Int (∀ p ∈ l, GoodM p) (goodMDec l) 0 5
theorem lchk_large {l : List (Int × Int × Int)} (h : 200 < l.length) : lchk l = 2 := by simp [lchk, h]
theorem lchk_ok {l : List (Int × Int × Int)} (h : l.length ≤ 200) (hn : ∀ p ∈ l, GoodM p) : lchk l = 0 := by
  unfold lchk; rw [if_neg (by omega), if_pos hn]
theorem lchk_no {l : List (Int × Int × Int)} {p : Int × Int × Int} (h : l.length ≤ 200) (hp : p ∈ l) (hn : ¬ GoodM p) : lchk l = 5 := by
  unfold lchk; rw [if_neg (by omega), if_neg (fun hh => hn (hh p hp))]
theorem lchk_cases (l : List (Int × Int × Int)) : (lchk l = 2 ∨ lchk l = 5) ∨ (lchk l = 0 ∧ l.length ≤ 200 ∧ ∀ p ∈ l, GoodM p) := by
  unfold lchk
  by_cases h : 200 < l.length
  · exact .inl (.inl (by rw [if_pos h]))
  · rw [if_neg h]
    by_cases hn : ∀ p ∈ l, GoodM p
    · exact .inr ⟨by rw [if_pos hn], by omega, hn⟩
    · exact .inl (.inr (by rw [if_neg hn]))

/-- a cell: From, To, State, Has, Value -/
abbrev Cl := Int × Int × Int × Bool × Int
/-- the cell of a stretch, if there is a message -/
def cellAt (m l : List (Int × Int × Int)) (how : Int) (s t : Int) : List Cl :=
  match mix how l s with
  | none => []
  | some v => [(s, t, (tel m s).getD 0, (tel m s).isSome, v)]
/-- the cells of the first i stretches -/
def cellsTo (m l : List (Int × Int × Int)) (how : Int) (S : List Int) : Nat → List Cl
  | 0 => []
  | i + 1 => cellsTo m l how S i ++ cellAt m l how (S.getD i 0) (S.getD (i + 1) 0)
theorem cellAt_len (m l : List (Int × Int × Int)) (how s t : Int) : (cellAt m l how s t).length ≤ 1 := by unfold cellAt; split <;> simp
theorem cellsTo_len (m l : List (Int × Int × Int)) (how : Int) (S : List Int) (i : Nat) : (cellsTo m l how S i).length ≤ i := by
  induction i with
  | zero => simp [cellsTo]
  | succ i ih => have := cellAt_len m l how (S.getD i 0) (S.getD (i + 1) 0); rw [cellsTo, List.length_append]; omega
theorem cellsTo_no {m l : List (Int × Int × Int)} {how : Int} {S : List Int} {i : Nat} (hi : i < S.length) (h : mix how l S[i] = none) : cellsTo m l how S (i + 1) = cellsTo m l how S i := by
  rw [cellsTo, cellAt, getD_get' hi, h, List.append_nil]
theorem cellsTo_yes {m l : List (Int × Int × Int)} {how : Int} {S : List Int} {i : Nat} {v : Int} (hi : i + 1 < S.length) (h : mix how l S[i] = some v) : cellsTo m l how S (i + 1) = cellsTo m l how S i ++ [(S[i], S[i + 1], (tel m S[i]).getD 0, (tel m S[i]).isSome, v)] := by
  rw [cellsTo, cellAt, getD_get' (by omega : i < S.length), getD_get' hi, h]
theorem cellsTo_mem {m l : List (Int × Int × Int)} {how : Int} {S : List Int} {i : Nat} {c : Cl} (hi : i + 1 ≤ S.length ∨ i = 0) (h : c ∈ cellsTo m l how S i) : ∃ j, ∃ hj : j + 1 < S.length, j < i ∧ ∃ v, mix how l S[j] = some v ∧ c = (S[j], S[j + 1], (tel m S[j]).getD 0, (tel m S[j]).isSome, v) := by
  induction i with
  | zero => simp [cellsTo] at h
  | succ i ih =>
    have hi' : i + 1 < S.length := by omega
    cases hm : mix how l S[i] with
    | none =>
      rw [cellsTo_no (by omega) hm] at h
      obtain ⟨j, hj, h1, h2⟩ := ih (by omega) h
      exact ⟨j, hj, by omega, h2⟩
    | some v =>
      rw [cellsTo_yes hi' hm, List.mem_append] at h
      rcases h with h | h
      · obtain ⟨j, hj, h1, h2⟩ := ih (by omega) h
        exact ⟨j, hj, by omega, h2⟩
      · simp only [List.mem_singleton] at h
        exact ⟨i, hi', by omega, v, hm, h⟩
theorem cellsTo_has {m l : List (Int × Int × Int)} {how : Int} {S : List Int} {i j : Nat} {v : Int} (hi : i + 1 ≤ S.length) (hj : j < i) (h : mix how l (S.getD j 0) = some v) : (S.getD j 0, S.getD (j + 1) 0, (tel m (S.getD j 0)).getD 0, (tel m (S.getD j 0)).isSome, v) ∈ cellsTo m l how S i := by
  induction i with
  | zero => omega
  | succ i ih =>
    rw [cellsTo, List.mem_append]
    by_cases e : j = i
    · subst e; right; rw [cellAt, h]; simp
    · left; exact ih (by omega) (by omega)

/-- all that is told of cells -/
def CellsIs (m l : List (Int × Int × Int)) (how : Int) (n : Int) (r : List Cl) : Prop :=
  ∃ S, Ordered (turnsOf m ++ turnsOf l) S ∧ ((¬ (∀ c ∈ cellsTo m l how S (S.length - 1), nearB c.2.2.2.2) ∧ n = 5 ∧ r = []) ∨ ((∀ c ∈ cellsTo m l how S (S.length - 1), nearB c.2.2.2.2) ∧ 200 < (cellsTo m l how S (S.length - 1)).length ∧ n = 2 ∧ r = []) ∨ ((∀ c ∈ cellsTo m l how S (S.length - 1), nearB c.2.2.2.2) ∧ (cellsTo m l how S (S.length - 1)).length ≤ 200 ∧ n = 0 ∧ r = cellsTo m l how S (S.length - 1)))
theorem ordered_unique {A S S' : List Int} (h : Ordered A S) (h' : Ordered A S') : S = S' := inc_mem_unique h.inc h'.inc fun x => (h.mem x).trans (h'.mem x).symm
theorem cellsIs_unique {m l : List (Int × Int × Int)} {how n n' : Int} {r r' : List Cl} (h : CellsIs m l how n r) (h' : CellsIs m l how n' r') : n = n' ∧ r = r' := by
  obtain ⟨S, hO, h⟩ := h
  obtain ⟨S', hO', h'⟩ := h'
  have e := ordered_unique hO hO'
  subst e
  rcases h with ⟨a, h1, h2⟩ | ⟨a, b, h1, h2⟩ | ⟨a, b, h1, h2⟩
  · rcases h' with ⟨a', h1', h2'⟩ | ⟨a', b', h1', h2'⟩ | ⟨a', b', h1', h2'⟩
    · exact ⟨h1.trans h1'.symm, h2.trans h2'.symm⟩
    · exact absurd a' a
    · exact absurd a' a
  · rcases h' with ⟨a', h1', h2'⟩ | ⟨a', b', h1', h2'⟩ | ⟨a', b', h1', h2'⟩
    · exact absurd a a'
    · exact ⟨h1.trans h1'.symm, h2.trans h2'.symm⟩
    · omega
  · rcases h' with ⟨a', h1', h2'⟩ | ⟨a', b', h1', h2'⟩ | ⟨a', b', h1', h2'⟩
    · exact absurd a a'
    · omega
    · exact ⟨h1.trans h1'.symm, h2.trans h2'.symm⟩

/-- at an end of a piece a map tells something else than right ahead of it -/
theorem tel_turn {m : List (Int × Int × Int)} {s t : Int} (hm : MCan m) (ht : t ∈ turnsOf m) (hst : s < t) (h : ∀ x ∈ turnsOf m, x ≤ s ∨ t ≤ x) : tel m s ≠ tel m t := by
  induction m with
  | nil => simp [turnsOf] at ht
  | cons p m ih =>
    have hp := hm.1
    have low := mcan_low hm
    have e0 : turnsOf (p :: m) = p.1 :: p.2.1 :: turnsOf m := by simp [turnsOf]
    rw [e0] at ht h
    by_cases h1 : t = p.1
    · rw [tel_first (p := p) (t := t) (by omega) (by omega), tel_before (fun q hq => ?_)]
      · intro hh; cases hh
      · rcases List.mem_cons.1 hq with e | hq
        · subst e; omega
        · have := low q hq; omega
    by_cases h2 : t = p.2.1
    · have := h p.1 (by simp)
      rw [tel_first (p := p) (t := s) (by omega) (by omega), tel_later (by omega)]
      cases m with
      | nil => intro hh; cases hh
      | cons q m =>
        have hf := hm.2.1 q rfl
        have hq := hm.2.2.1
        rcases hf with hf | ⟨hf, hv⟩
        · rw [tel_before (fun r hr => ?_)]
          · intro hh; cases hh
          · rcases List.mem_cons.1 hr with e | hr
            · subst e; omega
            · have := mcan_low hm.2.2 r hr; omega
        · rw [tel_first (p := q) (by omega) (by omega)]
          intro hh
          exact hv (Option.some.inj hh)
    · have ht' : t ∈ turnsOf m := by
        rcases List.mem_cons.1 ht with e | ht
        · exact absurd e h1
        · rcases List.mem_cons.1 ht with e | ht
          · exact absurd e h2
          · exact ht
      obtain ⟨q, hq, hx⟩ := turnsOf_mem ht'
      have hl := low q hq
      have hqp := mcan_pos hm.2.2 q hq
      have h3 : p.2.1 ≤ s := by
        rcases h p.2.1 (by simp) with h3 | h3
        · exact h3
        · omega
      rw [tel_later h3, tel_later (by omega)]
      exact ih hm.2.2 ht' fun x hx => h x (by simp [hx])

/-- which messages are there at a time, by their numbers -/
def who (l : List (Int × Int × Int)) (t : Int) (k : Nat) : List Nat := (List.range k).filter fun i => inP (l.getD i (0, 0, 0)) t
theorem who_succ (l : List (Int × Int × Int)) (t : Int) (k : Nat) : who l t (k + 1) = who l t k ++ if inP (l.getD k (0, 0, 0)) t then [k] else [] := by
  unfold who
  rw [List.range_succ, List.filter_append]
  congr 1
  simp only [List.filter_cons, List.filter_nil]
theorem mem_who {l : List (Int × Int × Int)} {t : Int} {k i : Nat} : i ∈ who l t k ↔ i < k ∧ inP (l.getD i (0, 0, 0)) t = true := by
  unfold who; rw [List.mem_filter, List.mem_range]
/-- at an end of a message others are there than right ahead of it -/
theorem who_turn {l : List (Int × Int × Int)} {s t : Int} (hl : ∀ p ∈ l, p.1 < p.2.1) (ht : t ∈ turnsOf l) (hst : s < t) (h : ∀ x ∈ turnsOf l, x ≤ s ∨ t ≤ x) : who l s l.length ≠ who l t l.length := by
  intro e
  obtain ⟨p, hp, hx⟩ := turnsOf_mem ht
  have hpp := hl p hp
  obtain ⟨k, hk, rfl⟩ := List.getElem_of_mem hp
  have h1 := h _ (mem_turnsOf hp).1
  have hi := mem_who (l := l) (t := s) (k := l.length) (i := k)
  have hj := mem_who (l := l) (t := t) (k := l.length) (i := k)
  rw [e, hj] at hi
  have hg : l.getD k (0, 0, 0) = l[k] := by simp [List.getD_eq_getElem?_getD, List.getElem?_eq_getElem hk]
  rw [hg, inP_iff, inP_iff] at hi
  rcases hx with hx | hx
  · have := hi.1 ⟨hk, by omega⟩; omega
  · have := hi.2 ⟨hk, by omega⟩; omega
/-- at each of the times of both, one of both turns -/
theorem cell_turn {m l : List (Int × Int × Int)} {S : List Int} (hO : Ordered (turnsOf m ++ turnsOf l) S) (hm : MCan m) (hl : ∀ p ∈ l, p.1 < p.2.1) {i : Nat} (hi : i + 1 < S.length) : tel m S[i] ≠ tel m S[i + 1] ∨ who l S[i] l.length ≠ who l S[i + 1] l.length := by
  have hS := hO.inc
  rw [List.pairwise_iff_getElem] at hS
  have hst := hS i (i + 1) (by omega) hi (by omega)
  have hb : ∀ x, x ∈ turnsOf m ++ turnsOf l → x ≤ S[i] ∨ S[i + 1] ≤ x := by
    intro x hx
    obtain ⟨j, hj, rfl⟩ := List.getElem_of_mem ((hO.mem x).2 hx)
    by_cases h1 : j ≤ i
    · left
      by_cases e : j = i
      · subst e; omega
      · exact Int.le_of_lt (hS j i hj (by omega) (by omega))
    · right
      by_cases e : j = i + 1
      · subst e; omega
      · exact Int.le_of_lt (hS (i + 1) j hi hj (by omega))
  have ht := (hO.mem S[i + 1]).1 (List.getElem_mem _)
  rw [List.mem_append] at ht
  rcases ht with ht | ht
  · exact .inl (tel_turn hm ht hst fun x hx => hb x (List.mem_append.2 (.inl hx)))
  · exact .inr (who_turn hl ht hst fun x hx => hb x (List.mem_append.2 (.inr hx)))

/-- the fold: what is told by stretches is near just if what is told by pieces is -/
theorem tl_near_iff {A S : List Int} {f : Int → Option Int} {out : List (Int × Int × Int)} (hO : Ordered A S) (hf : MTurns S f) (T : Tl S f (S.length - 1) out) (hA : ∀ x ∈ A, nearB x) : (∀ q ∈ out, NearP q) ↔ ∀ s ∈ S.take (S.length - 1), ∀ v, f s = some v → nearB v := by
  constructor
  · intro h s _ v hv
    have := T.pts s
    rw [mseg_turns hO.inc hf, hv] at this
    obtain ⟨q, hq, _, rfl⟩ := tel_mem this
    exact (h q hq).2.2
  · intro h q hq
    obtain ⟨h1, h2, s, hs, hv⟩ := T.mem q hq
    refine ⟨hA _ ((hO.mem _).1 h1), hA _ ((hO.mem _).1 h2), ?_⟩
    obtain ⟨j, hj, rfl⟩ := List.getElem_of_mem hs
    by_cases e : j < S.length - 1
    · exact h S[j] (List.mem_iff_getElem.2 ⟨j, by rw [List.length_take]; omega, by simp⟩) _ hv
    · rw [hf.high S[j] (fun x hx => ?_)] at hv
      · cases hv
      · obtain ⟨i, hi, rfl⟩ := List.getElem_of_mem hx
        have hS := hO.inc
        rw [List.pairwise_iff_getElem] at hS
        by_cases e' : i = j
        · subst e'; omega
        · exact Int.le_of_lt (hS i j hi hj (by omega))

end Go.Proofs.Ytjlnokjaabcldae
